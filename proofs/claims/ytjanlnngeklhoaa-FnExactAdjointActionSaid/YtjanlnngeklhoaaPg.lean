/- Texts in one: Hop4, Hop5, Hop6, Hop6c, Hop8, OpenHop, Adj, Adjs, Legs, Legm, LegLaw, Aug, AugLaw. -/
import Derived.Test.YtjanlnngeklhoaaPf
import Derived.Test.YtjanlnngeklhoaaPe
import Derived.Test.YtjanlnngeklhoaaPd
set_option linter.unusedSimpArgs false
set_option linter.unusedVariables false
set_option linter.unusedSectionVars false
/- The axioms of Hopf algebras, as the model checks them. -/
set_option linter.unusedVariables false
set_option linter.unusedSimpArgs false
set_option maxRecDepth 100000
set_option maxHeartbeats 1000000
namespace Go.Proofs.Ytjanlnngeklhoaa
open M

theorem l01Zero_s (v : Nat → Int) : Spec Try.prog 64 [.ints .u8 8 v] [] (Ret (.bool (allEq 8 v fun _ => 0))) := by
  refine Spec.ret rfl (Spec.of_vc tabOK tabEq Try.func64 rfl (by kernel_rfl) rfl rfl ?_)
  (repeat (first | refine And.intro (by omega) ?_ | refine And.intro ⟨by omega, by omega⟩ ?_))
  exact boolEq rfl

theorem cop_skip {p : Int} {C v : Nat → Int} {i : Nat} (hv : v i = 0) (j k : Nat) : cop p C v (i + 1) j k = cop p C v i j k := by
  unfold cop
  show (sumN i (fun a => v a * vecT C a j k) + v i * vecT C i j k) % p = _
  rw [hv]; simp

theorem l03Coproduct_s (p : Int) (n : Nat) (U T Z C S v : Nat → Int) (hV : Valid p n Z (dualF C)) (hC : isU8 512 C) (hv : isU8 8 v) (hz : ∀ i, n ≤ i → i < 8 → v i = 0) :
    Spec Try.prog 34 [hopV p n U T Z C S, .ints .u8 8 v] [] (Ret (.ints .u8 64 (leftT p C v))) := by
  have hn := hV.hn
  have hp := hV.hp
  refine Spec.ret rfl (Spec.of_vc tabOK tabEq Try.func34 rfl (by kernel_rfl) rfl rfl ?_)
  (repeat (first | refine And.intro (by omega) ?_ | refine And.intro ⟨by omega, by omega⟩ ?_))
  refine LoopVC.of (fun i : Nat => i ≤ n) (fun i => [(2, .ptr 0 [] 0 0), (3, .ptr 1 [] 0 0), (4, .ptr 2 [] 0 0), (5, .ptr 3 [] 0 0), (6, .int .i64 i)])
    (fun i => [some (hopV p n U T Z C S, 1106), some (.ints .u8 8 v, 8), some (.ints .u8 64 fun _ => 0, 64), some (.ints .u8 64 fun q => if q / 8 < n then cop p C v i (q / 8) (q % 8) else 0, 64)]) (fun i => n - i) 0 (by omega) ?_ ?_ ?_
  · exact (And.intro rfl (And.intro rfl (And.intro rfl (And.intro rfl (And.intro rfl (trivial))))))
  · exact And.intro (And.intro (hopR p n U T Z C S) rfl) (And.intro (And.intro (rowEq fun _ _ => rfl) rfl) (And.intro (And.intro (rowEq fun _ _ => rfl) rfl) (And.intro (And.intro (rowEq fun q hq => by show updR _ 0 64 _ q = _; simp [updR, hq, cop, sumN]) rfl) trivial)))
  · intro i hi
    refine ifVC_split (fun h => ?_) (fun h => ?_)
    · have hlti := of_decide_eq_true h
      have hidx : (i : Int).toNat = i := by omega
      have hvi := hv i (by omega)
      have done : ∀ j : Nat, j ≤ n → (j = n ∨ v i = 0) → ∀ q, q < 64 → (if q / 8 < j then cop p C v (i + 1) (q / 8) (q % 8) else if q / 8 < n then cop p C v i (q / 8) (q % 8) else 0) = if q / 8 < n then cop p C v (i + 1) (q / 8) (q % 8) else 0 := fun j hj hd q hq => by
        by_cases h2 : q / 8 < j
        · rw [if_pos h2, if_pos (by omega)]
        · rw [if_neg h2]
          rcases hd with hd | hd
          · rw [if_neg (by omega), if_neg (by omega)]
          · rw [cop_skip hd]
      refine LoopVC.of (fun j : Nat => j ≤ n) (fun j => [(2, .ptr 0 [] 0 0), (3, .ptr 1 [] 0 0), (4, .ptr 2 [] 0 0), (5, .ptr 3 [] 0 0), (6, .int .i64 i), (7, .int .i64 j)])
        (fun j => [some (hopV p n U T Z C S, 1106), some (.ints .u8 8 v, 8), some (.ints .u8 64 fun _ => 0, 64), some (.ints .u8 64 fun q => if q / 8 < j then cop p C v (i + 1) (q / 8) (q % 8) else if q / 8 < n then cop p C v i (q / 8) (q % 8) else 0, 64)]) (fun j => n - j) 0 (by omega) ?_ ?_ ?_
      · exact (And.intro rfl (And.intro rfl (And.intro rfl (And.intro rfl (And.intro rfl (And.intro rfl (trivial)))))))
      · exact And.intro (And.intro (hopR p n U T Z C S) rfl) (And.intro (And.intro (rowEq fun _ _ => rfl) rfl) (And.intro (And.intro (rowEq fun _ _ => rfl) rfl) (And.intro (And.intro (rowEq fun q hq => by simp) rfl) trivial)))
      · intro j hj
        refine ifVC_split (fun h => ?_) (fun h => ?_)
        · have hltj := of_decide_eq_true h
          have hjdx : (j : Int).toNat = j := by omega
          (repeat (first | refine And.intro (by omega) ?_ | refine And.intro ⟨by omega, by omega⟩ ?_))
          refine ifVC_split (fun hz0 => ?_) (fun hz0 => ?_)
          · refine Exists.intro 18 (And.intro (by kernel_rfl) ?_)
            (repeat (first | refine And.intro (by omega) ?_ | refine And.intro ⟨by omega, by omega⟩ ?_))
            have hout : isU8 64 fun q => if q / 8 < j then cop p C v (i + 1) (q / 8) (q % 8) else if q / 8 < n then cop p C v i (q / 8) (q % 8) else 0 := fun q hq => by
              dsimp only
              split
              · exact modB hp
              · split
                · exact modB hp
                · omega
            have hvw : IntKind.i64.wrap (v ((i : Int).toNat * 1 + 0)) = v i := by rw [show (i : Int).toNat * 1 + 0 = i by omega]; exact wrapI (by omega)
            refine Exists.intro (.ints .u8 8 _) (And.intro (And.intro rfl (And.intro rfl (Spec.mono (l01Add_s p _ _ _ hp (by rw [hvw]; omega) (fun q hq => hout _ (by omega)) (fun q hq => hC _ (by omega))) fun r m h => h.1))) ?_)
            (repeat (first | refine And.intro (by omega) ?_ | refine And.intro ⟨by omega, by omega⟩ ?_))
            refine Exists.intro (j + 1) (And.intro (by omega) (And.intro (by omega) (And.intro (And.intro rfl (And.intro rfl (And.intro rfl (And.intro rfl (And.intro rfl (And.intro (slotI (wrapS (by omega))) trivial)))))) ?_)))
            refine And.intro (And.intro (hopR p n U T Z C S) rfl) (And.intro (And.intro (rowEq fun _ _ => rfl) rfl) (And.intro (And.intro (rowEq fun _ _ => rfl) rfl) (And.intro (And.intro (rowEq fun q hq => ?_) rfl) trivial)))
            show updR _ ((j : Int).toNat * 8 + 0) 8 _ q = _
            unfold updR
            rw [hjdx]
            by_cases h1 : j * 8 + 0 ≤ q ∧ q < j * 8 + 0 + 8
            · rw [if_pos h1, if_pos (by omega)]
              unfold addM
              rw [hvw, cop_step]
              dsimp only
              have e1 : q - (j * 8 + 0) + (j * 8 + 0) = q := by omega
              have e2 : C (q - (j * 8 + 0) + (j * 8 + ((i : Int).toNat * 64 + 0))) = vecT C i (q / 8) (q % 8) := by unfold vecT; congr 1; omega
              rw [e1, e2, if_neg (by omega), if_pos (by omega)]
            · rw [if_neg h1]
              dsimp only
              by_cases h2 : q / 8 < j
              · rw [if_pos h2, if_pos (show q / 8 < j + 1 by omega)]
              · rw [if_neg h2, if_neg (show ¬ q / 8 < j + 1 by omega)]
          · have hz0 : v i = 0 := by
              have hz0 : v ((i : Int).toNat * 1 + 0) = 0 := by simpa using hz0
              rw [show (i : Int).toNat * 1 + 0 = i by omega] at hz0; exact hz0
            refine Exists.intro (i + 1) (And.intro (by omega) (And.intro (by omega) (And.intro (And.intro rfl (And.intro rfl (And.intro rfl (And.intro rfl (And.intro (slotI (wrapS (by omega))) trivial))))) ?_)))
            exact And.intro (And.intro (hopR p n U T Z C S) rfl) (And.intro (And.intro (rowEq fun _ _ => rfl) rfl) (And.intro (And.intro (rowEq fun _ _ => rfl) rfl) (And.intro (And.intro (rowEq fun q hq => done j hj (.inr hz0) q hq) rfl) trivial)))
        · have hge := of_decide_eq_false h
          refine Exists.intro (i + 1) (And.intro (by omega) (And.intro (by omega) (And.intro (And.intro rfl (And.intro rfl (And.intro rfl (And.intro rfl (And.intro (slotI (wrapS (by omega))) trivial))))) ?_)))
          exact And.intro (And.intro (hopR p n U T Z C S) rfl) (And.intro (And.intro (rowEq fun _ _ => rfl) rfl) (And.intro (And.intro (rowEq fun _ _ => rfl) rfl) (And.intro (And.intro (rowEq fun q hq => done j hj (.inl (by omega)) q hq) rfl) trivial)))
    · have hge := of_decide_eq_false h
      obtain rfl : i = n := by omega
      (repeat (first | refine And.intro (by omega) ?_ | refine And.intro ⟨by omega, by omega⟩ ?_))
      refine rowEq fun q hq => ?_
      rw [cop_left hV hz hq]
      show updR _ 0 64 _ q = _
      simp [updR, hq]

theorem l03Counit_s (p : Int) (n : Nat) (U T Z C S v : Nat → Int) (hp : 0 < p ∧ p < 256) (hn : n ≤ 8) (hZ : isU8 8 Z) (hv : isU8 8 v) (hz : ∀ i, n ≤ i → i < 8 → v i = 0) :
    Spec Try.prog 97 [hopV p n U T Z C S, .ints .u8 8 v] [] (Ret (.int .i64 (cnt p Z v))) := by
  refine Spec.ret rfl (Spec.of_vc tabOK tabEq Try.func97 rfl (by kernel_rfl) rfl rfl ?_)
  refine LoopVC.of (fun i : Nat => i ≤ n) (fun i => [(2, .ptr 0 [] 0 0), (3, .ptr 1 [] 0 0), (5, .int .i64 (cntN Z v i)), (6, .int .i64 i)]) (fun _ => [some (hopV p n U T Z C S, 1106), some (.ints .u8 8 v, 8)]) (fun i => n - i) 0 (by omega) ?_ ?_ ?_
  · exact (And.intro rfl (And.intro rfl (And.intro rfl (And.intro rfl (trivial)))))
  · exact And.intro (And.intro (hopR p n U T Z C S) rfl) (And.intro (And.intro (rowEq fun _ _ => rfl) rfl) trivial)
  · intro i hi
    refine ifVC_split (fun h => ?_) (fun h => ?_)
    · have hlt := of_decide_eq_true h
      refine Exists.intro 12 (And.intro (by kernel_rfl) ?_)
      (repeat (first | refine And.intro (by omega) ?_ | refine And.intro ⟨by omega, by omega⟩ ?_))
      refine Exists.intro (i + 1) (And.intro (by omega) (And.intro (by omega) (And.intro (And.intro rfl (And.intro rfl (And.intro (slotI (cnt_step hZ hv (by omega) (by omega) (by omega))) (And.intro (slotI (wrapS (by omega))) trivial)))) (And.intro (And.intro (hopR p n U T Z C S) rfl) (And.intro (And.intro (rowEq fun _ _ => rfl) rfl) trivial)))))
    · have hge := of_decide_eq_false h
      obtain rfl : i = n := by omega
      have h4 := cnt_bound hZ hv i (by omega)
      (repeat (first | refine And.intro (by omega) ?_ | refine And.intro ⟨by omega, by omega⟩ ?_))
      refine slotI ?_
      rw [Int.tmod_eq_emod_of_nonneg h4.1]
      unfold cnt cntN
      rw [sumN_cut 8 hn fun a h1 h2 => by rw [hz a h1 h2]; simp]

/-! ### products of pairs -/
theorem pairT_cut {p : Int} {n : Nat} {U T : Nat → Int} (hV : Valid p n U T) (F G : Nat → Int) {q : Nat} (hq : q < 64) : pairT p T F G 8 8 q = pairT p T F G n n q := by
  have hn := hV.hn
  have e : ∀ a, a < 8 → pairN p T F G a 8 q = pairN p T F G a n q := fun a ha => by
    unfold pairN
    exact sumN_cut 8 hn fun b h1 h2 => by rw [hV.zero a b (q / 8) ha h2 (by omega) (.inr (.inl h1))]; simp
  unfold pairT
  rw [sumN_congr 8 e]
  refine sumN_cut 8 hn fun a h1 h2 => ?_
  unfold pairN
  exact sumN_none n fun b hb => by rw [hV.zero a b (q / 8) h2 (by omega) (by omega) (.inl h1)]; simp

theorem l03Pairs_s (p : Int) (n : Nat) (U T Z C S F G : Nat → Int) (hV : HV p n U T Z C S) (hF : isU8 64 F) (hG : isU8 64 G) (hFz : ∀ a m, a < 8 → m < 8 → n ≤ m → partF F 8 a m = 0) (hGz : ∀ a m, a < 8 → m < 8 → n ≤ m → partF G 8 a m = 0) :
    Spec Try.prog 96 [hopV p n U T Z C S, .ints .u8 64 F, .ints .u8 64 G] [] (Ret (.ints .u8 64 (pairsF p T F G))) := by
  have hn := hV.a.hn
  have hp := hV.a.hp
  have hT := hV.hT
  have HE : ∀ (r : Mem), True := fun _ => trivial
  refine Spec.ret rfl (Spec.of_vc tabOK tabEq Try.func96 rfl (by kernel_rfl) rfl rfl ?_)
  refine Exists.intro 8 (And.intro (by kernel_rfl) ?_)
  (repeat (first | refine And.intro (by omega) ?_ | refine And.intro ⟨by omega, by omega⟩ ?_))
  refine LoopVC.of (fun j : Nat => j ≤ n) (fun j => [(3, .ptr 0 [] 0 0), (4, .ptr 1 [] 0 0), (5, .ptr 2 [] 0 0), (6, .ptr 3 [] 0 0), (7, .int .i64 p), (8, .int .i64 n), (9, .ptr 4 [] 0 0), (10, .int .i64 j)])
    (fun j => [some (hopV p n U T Z C S, 1106), some (.ints .u8 64 F, 64), some (.ints .u8 64 G, 64), some (.ints .u8 64 fun _ => 0, 64), some (.ints .u8 64 fun q => pairT p T F G j n q % p, 64)]) (fun j => n - j) 0 (by omega) ?_ ?_ ?_
  · exact (And.intro rfl (And.intro rfl (And.intro rfl (And.intro rfl (And.intro rfl (And.intro rfl (And.intro rfl (And.intro rfl (trivial)))))))))
  · exact And.intro (And.intro (hopR p n U T Z C S) rfl) (And.intro (And.intro (rowEq fun _ _ => rfl) rfl) (And.intro (And.intro (rowEq fun _ _ => rfl) rfl) (And.intro (And.intro (rowEq fun _ _ => rfl) rfl) (And.intro (And.intro (rowEq fun q hq => by show updR _ 0 64 _ q = _; simp [updR, hq, pairT, sumN]) rfl) trivial))))
  · intro j hj
    refine ifVC_split (fun h => ?_) (fun h => ?_)
    · have hltj := of_decide_eq_true h
      have hjdx : (j : Int).toNat = j := by omega
      refine LoopVC.of (fun l : Nat => l ≤ n) (fun l => [(3, .ptr 0 [] 0 0), (4, .ptr 1 [] 0 0), (5, .ptr 2 [] 0 0), (6, .ptr 3 [] 0 0), (7, .int .i64 p), (8, .int .i64 n), (9, .ptr 4 [] 0 0), (10, .int .i64 j), (11, .int .i64 l)])
        (fun l => [some (hopV p n U T Z C S, 1106), some (.ints .u8 64 F, 64), some (.ints .u8 64 G, 64), some (.ints .u8 64 fun _ => 0, 64), some (.ints .u8 64 fun q => (pairT p T F G j n q + pairN p T F G j l q) % p, 64)]) (fun l => n - l) 0 (by omega) ?_ ?_ ?_
      · exact (And.intro rfl (And.intro rfl (And.intro rfl (And.intro rfl (And.intro rfl (And.intro rfl (And.intro rfl (And.intro rfl (And.intro rfl (trivial))))))))))
      · exact And.intro (And.intro (hopR p n U T Z C S) rfl) (And.intro (And.intro (rowEq fun _ _ => rfl) rfl) (And.intro (And.intro (rowEq fun _ _ => rfl) rfl) (And.intro (And.intro (rowEq fun _ _ => rfl) rfl) (And.intro (And.intro (rowEq fun q hq => by simp [pairN, sumN]) rfl) trivial))))
      · intro l hl
        refine ifVC_split (fun h => ?_) (fun h => ?_)
        · have hltl := of_decide_eq_true h
          have hldx : (l : Int).toNat = l := by omega
          have next : ∀ (s : Slots) (m : Mem) (o : Nat → Int), (∀ q, q < 64 → o q = (pairT p T F G j n q + pairN p T F G j (l + 1) q) % p) → eqvO (lk s 3) (.ptr 0 [] 0 0) → eqvO (lk s 4) (.ptr 1 [] 0 0) → eqvO (lk s 5) (.ptr 2 [] 0 0) → eqvO (lk s 6) (.ptr 3 [] 0 0) → eqvO (lk s 7) (.int .i64 p) → eqvO (lk s 8) (.int .i64 n) → eqvO (lk s 9) (.ptr 4 [] 0 0) → eqvO (lk s 10) (.int .i64 j) → eqvO (lk s 11) (.int .i64 (IntKind.i64.wrap ((l : Int) + 1))) →
              memCut m [some (hopV p n U T Z C S, 1106), some (.ints .u8 64 F, 64), some (.ints .u8 64 G, 64), some (.ints .u8 64 fun _ => 0, 64), some (.ints .u8 64 fun q => (pairT p T F G j n q + pairN p T F G j (l + 1) q) % p, 64)] →
              ∃ x' : Nat, x' ≤ n ∧ n - x' < n - l ∧ subL [(3, .ptr 0 [] 0 0), (4, .ptr 1 [] 0 0), (5, .ptr 2 [] 0 0), (6, .ptr 3 [] 0 0), (7, .int .i64 p), (8, .int .i64 n), (9, .ptr 4 [] 0 0), (10, .int .i64 j), (11, .int .i64 x')] s ∧
                memCut m [some (hopV p n U T Z C S, 1106), some (.ints .u8 64 F, 64), some (.ints .u8 64 G, 64), some (.ints .u8 64 fun _ => 0, 64), some (.ints .u8 64 fun q => (pairT p T F G j n q + pairN p T F G j x' q) % p, 64)] := fun s m o _ h3 h4 h5 h6 h7 h8 h9 h10 h11 hm =>
            ⟨l + 1, by omega, by omega, ⟨h3, h4, h5, h6, h7, h8, h9, h10, by rw [wrapS (by omega)] at h11; exact h11, trivial⟩, hm⟩
          have hFj : isU8 8 (partF F 8 j) := part_u8 hF (by omega)
          have hGl : isU8 8 (partF G 8 l) := part_u8 hG (by omega)
          refine Exists.intro 10 (And.intro (by kernel_rfl) ?_)
          refine Exists.intro (algV p n U T) (And.intro (And.intro rfl (And.intro rfl (Spec.mono (l03Algebra_s p n U T Z C S) fun r m h => h.1))) ?_)
          (repeat (first | refine And.intro (by omega) ?_ | refine And.intro ⟨by omega, by omega⟩ ?_))
          refine Exists.intro (.ints .u8 8 fun y => timS p n T (partF F 8 j) (partF G 8 l) n y % p) (And.intro (And.intro rfl (And.intro rfl ?_)) ?_)
          · refine Spec.mono (l01Times_s p n U T _ _ hp hn hT (fun q hq => hF _ (by omega)) (fun q hq => hG _ (by omega))) ?_
            rintro r m ⟨rfl, _⟩
            rw [hjdx, hldx]
            rfl
          have hrow : ∀ y, y < 8 → timS p n T (partF F 8 j) (partF G 8 l) n y % p = pw p T F G j l y := fun y hy => prod_eq hV.a (fun m h1 h2 => hFz j m (by omega) h2 h1) (fun m h1 h2 => hGz l m (by omega) h2 h1) hy
          (repeat (first | refine And.intro (by omega) ?_ | refine And.intro ⟨by omega, by omega⟩ ?_))
          refine And.intro trivial (Spec.mono (l01Zero_s _) ?_)
          rintro r m ⟨rfl, rfl⟩
          have hq : allEq 8 (fun q => updR (fun _ => 0) 0 8 (fun y => timS p n T (partF F 8 j) (partF G 8 l) n y % p) (q + 0)) (fun _ => 0) = allEq 8 (pw p T F G j l) (fun _ => 0) := allEq_congr (fun q hq => by simp [updR, hq]; exact hrow q hq) fun _ _ => rfl
          refine ifVC_split (fun hz0 => ?_) (fun hz0 => ?_)
          · have hz0 : allEq 8 (pw p T F G j l) (fun _ => 0) = true := by rw [← hq]; exact hz0
            refine next _ _ _ (fun q hq => rfl) rfl rfl rfl rfl rfl rfl rfl rfl rfl ?_
            refine And.intro (And.intro (hopR p n U T Z C S) rfl) (And.intro (And.intro (rowEq fun _ _ => rfl) rfl) (And.intro (And.intro (rowEq fun _ _ => rfl) rfl) (And.intro (And.intro (rowEq fun _ _ => rfl) rfl) (And.intro (And.intro (rowEq fun q hq => ?_) rfl) trivial))))
            show (pairT p T F G j n q + pairN p T F G j l q) % p = (pairT p T F G j n q + (pairN p T F G j l q + vecT T j l (q / 8) * pw p T F G j l (q % 8))) % p
            rw [allEq_get hz0 (show q % 8 < 8 by omega)]
            simp
          refine LoopVC.of (fun x : Nat => x ≤ n) (fun x => [(3, .ptr 0 [] 0 0), (4, .ptr 1 [] 0 0), (5, .ptr 2 [] 0 0), (6, .ptr 3 [] 0 0), (7, .int .i64 p), (8, .int .i64 n), (9, .ptr 4 [] 0 0), (10, .int .i64 j), (11, .int .i64 l), (12, .ptr 5 [] 0 0), (13, .int .i64 x)])
            (fun x => [some (hopV p n U T Z C S, 1106), some (.ints .u8 64 F, 64), some (.ints .u8 64 G, 64), some (.ints .u8 64 fun _ => 0, 64), some (.ints .u8 64 fun q => (pairT p T F G j n q + pairN p T F G j (if q / 8 < x then l + 1 else l) q) % p, 64), some (.ints .u8 8 (pw p T F G j l), 8)]) (fun x => n - x) 0 (by omega) ?_ ?_ ?_
          · exact (And.intro rfl (And.intro rfl (And.intro rfl (And.intro rfl (And.intro rfl (And.intro rfl (And.intro rfl (And.intro rfl (And.intro rfl (And.intro rfl (And.intro rfl (trivial))))))))))))
          · exact And.intro (And.intro (hopR p n U T Z C S) rfl) (And.intro (And.intro (rowEq fun _ _ => rfl) rfl) (And.intro (And.intro (rowEq fun _ _ => rfl) rfl) (And.intro (And.intro (rowEq fun _ _ => rfl) rfl) (And.intro (And.intro (rowEq fun q hq => by simp) rfl) (And.intro (And.intro (rowEq fun q hq => by show updR _ 0 8 _ q = _; simp [updR, hq]; exact hrow q hq) rfl) trivial)))))
          · intro x hx
            refine ifVC_split (fun h => ?_) (fun h => ?_)
            · have hltx := of_decide_eq_true h
              have hxdx : (x : Int).toNat = x := by omega
              have hk : T ((x : Int).toNat * 1 + ((l : Int).toNat * 8 + ((j : Int).toNat * 64 + 0))) = vecT T j l x := by rw [hjdx, hldx, hxdx]; unfold vecT; congr 1; omega
              have hkb := vec_u8 hT (show j < 8 by omega) (show l < 8 by omega) (show x < 8 by omega)
              (repeat (first | refine And.intro (by omega) ?_ | refine And.intro ⟨by omega, by omega⟩ ?_))
              refine ifVC_split (fun hc => ?_) (fun hc => ?_)
              · refine Exists.intro 10 (And.intro (by kernel_rfl) ?_)
                (repeat (first | refine And.intro (by omega) ?_ | refine And.intro ⟨by omega, by omega⟩ ?_))
                refine Exists.intro (.ints .u8 8 _) (And.intro (And.intro rfl (And.intro rfl (Spec.mono (l01Add_s p _ _ _ hp (by rw [hk, wrapI (by omega)]; omega) (fun q hq => modB hp) (fun q hq => modB hp)) fun r m h => h.1))) ?_)
                (repeat (first | refine And.intro (by omega) ?_ | refine And.intro ⟨by omega, by omega⟩ ?_))
                refine Exists.intro (x + 1) (And.intro (by omega) (And.intro (by omega) (And.intro (And.intro rfl (And.intro rfl (And.intro rfl (And.intro rfl (And.intro rfl (And.intro rfl (And.intro rfl (And.intro rfl (And.intro rfl (And.intro rfl (And.intro (slotI (wrapS (by omega))) trivial))))))))))) ?_)))
                refine And.intro (And.intro (hopR p n U T Z C S) rfl) (And.intro (And.intro (rowEq fun _ _ => rfl) rfl) (And.intro (And.intro (rowEq fun _ _ => rfl) rfl) (And.intro (And.intro (rowEq fun _ _ => rfl) rfl) (And.intro (And.intro (rowEq fun q hq => ?_) rfl) (And.intro (And.intro (rowEq fun _ _ => rfl) rfl) trivial)))))
                show updR _ ((x : Int).toNat * 8 + 0) 8 _ q = _
                unfold updR
                rw [hxdx]
                by_cases h1 : x * 8 + 0 ≤ q ∧ q < x * 8 + 0 + 8
                · rw [if_pos h1, if_pos (show q / 8 < x + 1 by omega)]
                  unfold addM
                  dsimp only
                  rw [hxdx] at hk
                  rw [hk, wrapI (x := vecT T j l x) (by omega), show q - (x * 8 + 0) + (x * 8 + 0) = q by omega, if_neg (show ¬ q / 8 < x by omega), mod_add, Int.add_assoc]
                  congr 2
                  show _ = pairN p T F G j l q + vecT T j l (q / 8) * pw p T F G j l (q % 8)
                  rw [show q / 8 = x by omega, show q - (x * 8 + 0) + 0 = q % 8 by omega]
                · rw [if_neg h1]
                  dsimp only
                  by_cases h2 : q / 8 < x
                  · rw [if_pos h2, if_pos (show q / 8 < x + 1 by omega)]
                  · rw [if_neg h2, if_neg (show ¬ q / 8 < x + 1 by omega)]
              · have hc : vecT T j l x = 0 := by rw [hk] at hc; simpa using hc
                refine Exists.intro (x + 1) (And.intro (by omega) (And.intro (by omega) (And.intro (And.intro rfl (And.intro rfl (And.intro rfl (And.intro rfl (And.intro rfl (And.intro rfl (And.intro rfl (And.intro rfl (And.intro rfl (And.intro rfl (And.intro (slotI (wrapS (by omega))) trivial))))))))))) ?_)))
                refine And.intro (And.intro (hopR p n U T Z C S) rfl) (And.intro (And.intro (rowEq fun _ _ => rfl) rfl) (And.intro (And.intro (rowEq fun _ _ => rfl) rfl) (And.intro (And.intro (rowEq fun _ _ => rfl) rfl) (And.intro (And.intro (rowEq fun q hq => ?_) rfl) (And.intro (And.intro (rowEq fun _ _ => rfl) rfl) trivial)))))
                by_cases h2 : q / 8 < x
                · rw [if_pos h2, if_pos (show q / 8 < x + 1 by omega)]
                · rw [if_neg h2]
                  by_cases h3 : q / 8 < x + 1
                  · rw [if_pos h3]
                    show _ = (pairT p T F G j n q + (pairN p T F G j l q + vecT T j l (q / 8) * pw p T F G j l (q % 8))) % p
                    rw [show q / 8 = x by omega, hc]
                    simp
                  · rw [if_neg h3]
            · have hge := of_decide_eq_false h
              obtain rfl : x = n := by omega
              refine next _ _ _ (fun q hq => rfl) rfl rfl rfl rfl rfl rfl rfl rfl rfl ?_
              refine And.intro (And.intro (hopR p x U T Z C S) rfl) (And.intro (And.intro (rowEq fun _ _ => rfl) rfl) (And.intro (And.intro (rowEq fun _ _ => rfl) rfl) (And.intro (And.intro (rowEq fun _ _ => rfl) rfl) (And.intro (And.intro (rowEq fun q hq => ?_) rfl) trivial))))
              by_cases h2 : q / 8 < x
              · rw [if_pos h2]
              · rw [if_neg h2]
                show _ = (pairT p T F G j x q + (pairN p T F G j l q + vecT T j l (q / 8) * pw p T F G j l (q % 8))) % p
                rw [hV.a.zero j l (q / 8) (by omega) (by omega) (by omega) (.inr (.inr (by omega)))]
                simp
        · have hge := of_decide_eq_false h
          obtain rfl : l = n := by omega
          refine Exists.intro (j + 1) (And.intro (by omega) (And.intro (by omega) (And.intro (And.intro rfl (And.intro rfl (And.intro rfl (And.intro rfl (And.intro rfl (And.intro rfl (And.intro rfl (And.intro (slotI (wrapS (by omega))) trivial)))))))) ?_)))
          exact And.intro (And.intro (hopR p l U T Z C S) rfl) (And.intro (And.intro (rowEq fun _ _ => rfl) rfl) (And.intro (And.intro (rowEq fun _ _ => rfl) rfl) (And.intro (And.intro (rowEq fun _ _ => rfl) rfl) (And.intro (And.intro (rowEq fun q hq => rfl) rfl) trivial))))
    · have hge := of_decide_eq_false h
      obtain rfl : j = n := by omega
      (repeat (first | refine And.intro (by omega) ?_ | refine And.intro ⟨by omega, by omega⟩ ?_))
      refine rowEq fun q hq => ?_
      unfold pairsF
      rw [pairT_cut hV.a F G hq]
      show updR _ 0 64 _ q = _
      simp [updR, hq]

/-! ### the convolutions with the identity -/
def owF (p : Int) (T R : Nat → Int) (b : Bool) (j k : Nat) : Nat → Int := match b with | false => prodF p T (partF R 8 j) (unitV k) | true => prodF p T (unitV j) (partF R 8 k)
def foldN (p : Int) (T C R : Nat → Int) (b : Bool) (i j m y : Nat) : Int := sumN m fun k => vecT C i j k * owF p T R b j k y
def foldT (p : Int) (n : Nat) (T C R : Nat → Int) (b : Bool) (i m y : Nat) : Int := sumN m fun j => foldN p T C R b i j n y

theorem l03FoldedF_s (p : Int) (n : Nat) (U T Z C S R : Nat → Int) (hV : HV p n U T Z C S) (hR : isU8 64 R) (hRz : ∀ a m, a < 8 → m < 8 → n ≤ m → partF R 8 a m = 0) (i : Nat) (hi : i < n) :
    Spec Try.prog 98 [hopV p n U T Z C S, .int .i64 i, .ints .u8 64 R, .bool false] [] (Ret (.ints .u8 8 fun y => foldT p n T C R false i n y % p)) := by
  have hn := hV.a.hn
  have hp := hV.a.hp
  have hT := hV.hT
  have hidx : (i : Int).toNat = i := by omega
  refine Spec.ret rfl (Spec.of_vc tabOK tabEq Try.func98 rfl (by kernel_rfl) rfl rfl ?_)
  refine And.intro trivial (Spec.mono (l03Algebra_s p n U T Z C S) ?_)
  rintro r m ⟨rfl, rfl⟩
  (repeat (first | refine And.intro (by omega) ?_ | refine And.intro ⟨by omega, by omega⟩ ?_))
  refine LoopVC.of (fun j : Nat => j ≤ n) (fun j => [(1, .int .i64 i), (3, .bool false), (4, .ptr 0 [] 0 0), (6, .ptr 1 [] 0 0), (8, .ptr 2 [] 0 0), (9, .ptr 3 [] 0 0), (10, .ptr 4 [] 0 0), (11, .int .i64 j)])
    (fun j => [some (hopV p n U T Z C S, 1106), some (.ints .u8 64 R, 64), some (.ints .u8 8 fun _ => 0, 8), some (.ints .u8 8 fun y => foldT p n T C R false i j y % p, 8), some (algV p n U T, 522)]) (fun j => n - j) 0 (by omega) ?_ ?_ ?_
  · exact (And.intro rfl (And.intro rfl (And.intro rfl (And.intro rfl (And.intro rfl (And.intro rfl (And.intro rfl (And.intro rfl (trivial)))))))))
  · exact And.intro (And.intro (hopR p n U T Z C S) rfl) (And.intro (And.intro (rowEq fun _ _ => rfl) rfl) (And.intro (And.intro (rowEq fun _ _ => rfl) rfl) (And.intro (And.intro (rowEq fun q hq => by show updR _ 0 8 _ q = _; simp [updR, hq, foldT, sumN]) rfl) (And.intro (And.intro (algR p n U T) rfl) trivial))))
  · intro j hj
    refine ifVC_split (fun h => ?_) (fun h => ?_)
    · have hltj := of_decide_eq_true h
      have hjdx : (j : Int).toNat = j := by omega
      refine LoopVC.of (fun k : Nat => k ≤ n) (fun k => [(1, .int .i64 i), (3, .bool false), (4, .ptr 0 [] 0 0), (6, .ptr 1 [] 0 0), (8, .ptr 2 [] 0 0), (9, .ptr 3 [] 0 0), (10, .ptr 4 [] 0 0), (11, .int .i64 j), (12, .int .i64 k)])
        (fun k => [some (hopV p n U T Z C S, 1106), some (.ints .u8 64 R, 64), some (.ints .u8 8 fun _ => 0, 8), some (.ints .u8 8 fun y => (foldT p n T C R false i j y + foldN p T C R false i j k y) % p, 8), some (algV p n U T, 522)]) (fun k => n - k) 0 (by omega) ?_ ?_ ?_
      · exact (And.intro rfl (And.intro rfl (And.intro rfl (And.intro rfl (And.intro rfl (And.intro rfl (And.intro rfl (And.intro rfl (And.intro rfl (trivial))))))))))
      · exact And.intro (And.intro (hopR p n U T Z C S) rfl) (And.intro (And.intro (rowEq fun _ _ => rfl) rfl) (And.intro (And.intro (rowEq fun _ _ => rfl) rfl) (And.intro (And.intro (rowEq fun q hq => by simp [foldN, sumN]) rfl) (And.intro (And.intro (algR p n U T) rfl) trivial))))
      · intro k hk
        refine ifVC_split (fun h => ?_) (fun h => ?_)
        · have hltk := of_decide_eq_true h
          have hkdx : (k : Int).toNat = k := by omega
          have hcv : C ((k : Int).toNat * 1 + ((j : Int).toNat * 8 + ((i : Int).toNat * 64 + 0))) = vecT C i j k := by rw [hjdx, hidx, hkdx]; unfold vecT; congr 1; omega
          have hcb := vec_u8 hV.hC (show i < 8 by omega) (show j < 8 by omega) (show k < 8 by omega)
          (repeat (first | refine And.intro (by omega) ?_ | refine And.intro ⟨by omega, by omega⟩ ?_))
          have hcw : IntKind.i64.wrap (C ((k : Int).toNat * 1 + ((j : Int).toNat * 8 + ((i : Int).toNat * 64 + 0)))) = vecT C i j k := by rw [hcv]; exact wrapI (by omega)
          refine ifVC_split (fun hc => ?_) (fun hc => ?_)
          · refine Exists.intro 8 (And.intro (by kernel_rfl) ?_)
            (repeat (first | refine And.intro (by omega) ?_ | refine And.intro ⟨by omega, by omega⟩ ?_))
            refine Exists.intro (.ints .u8 8 (unitV k)) (And.intro (And.intro rfl (And.intro rfl (Spec.mono (l01Basis_s k (by omega)) fun r m h => by rw [hkdx] at h; exact h.1))) ?_)
            refine Exists.intro (.ints .u8 8 fun y => timS p n T (partF R 8 j) (unitV k) n y % p) (And.intro (And.intro rfl (And.intro rfl ?_)) ?_)
            · refine Spec.mono (l01Times_s p n U T _ _ hp hn hT (fun q hq => hR _ (by omega)) (unitV_u8 k 8)) ?_
              rintro r m ⟨rfl, _⟩
              rw [hjdx]
              rfl
            have hrow : ∀ y, y < 8 → timS p n T (partF R 8 j) (unitV k) n y % p = owF p T R false j k y := fun y hy => prod_eq hV.a (fun m h1 h2 => hRz j m (by omega) h2 h1) (fun m h1 h2 => unitV_ne (by omega)) hy
            (repeat (first | refine And.intro (by omega) ?_ | refine And.intro ⟨by omega, by omega⟩ ?_))
            refine And.intro trivial (Spec.mono (l01Add_s p _ _ _ hp (by rw [hcw]; omega) (fun q hq => modB hp) (fun q hq => by simp only [updR]; rw [if_pos (by omega)]; exact modB hp)) ?_)
            rintro r m ⟨rfl, rfl⟩
            (repeat (first | refine And.intro (by omega) ?_ | refine And.intro ⟨by omega, by omega⟩ ?_))
            refine Exists.intro (k + 1) (And.intro (by omega) (And.intro (by omega) (And.intro (And.intro rfl (And.intro rfl (And.intro rfl (And.intro rfl (And.intro rfl (And.intro rfl (And.intro rfl (And.intro rfl (And.intro (slotI (wrapS (by omega))) trivial))))))))) ?_)))
            refine And.intro (And.intro (hopR p n U T Z C S) rfl) (And.intro (And.intro (rowEq fun _ _ => rfl) rfl) (And.intro (And.intro (rowEq fun _ _ => rfl) rfl) (And.intro (And.intro (rowEq fun q hq => ?_) rfl) (And.intro (And.intro (algR p n U T) rfl) trivial))))
            have e := hrow q hq
            show updR _ 0 8 _ q = (foldT p n T C R false i j q + (foldN p T C R false i j k q + vecT C i j k * owF p T R false j k q)) % p
            simp only [updR, Nat.zero_le, true_and, Nat.zero_add, hq, if_true, Nat.sub_zero, addM, Nat.add_zero]
            simp only [Nat.add_zero] at hcw
            rw [hcw, e, mod_add, Int.add_assoc]
          · have hc : vecT C i j k = 0 := by rw [← hcw]; simpa using hc
            refine Exists.intro (k + 1) (And.intro (by omega) (And.intro (by omega) (And.intro (And.intro rfl (And.intro rfl (And.intro rfl (And.intro rfl (And.intro rfl (And.intro rfl (And.intro rfl (And.intro rfl (And.intro (slotI (wrapS (by omega))) trivial))))))))) ?_)))
            refine And.intro (And.intro (hopR p n U T Z C S) rfl) (And.intro (And.intro (rowEq fun _ _ => rfl) rfl) (And.intro (And.intro (rowEq fun _ _ => rfl) rfl) (And.intro (And.intro (rowEq fun q hq => ?_) rfl) (And.intro (And.intro (algR p n U T) rfl) trivial))))
            show _ = (foldT p n T C R false i j q + (foldN p T C R false i j k q + vecT C i j k * owF p T R false j k q)) % p
            rw [hc]
            simp
        · have hge := of_decide_eq_false h
          obtain rfl : k = n := by omega
          refine Exists.intro (j + 1) (And.intro (by omega) (And.intro (by omega) (And.intro (And.intro rfl (And.intro rfl (And.intro rfl (And.intro rfl (And.intro rfl (And.intro rfl (And.intro rfl (And.intro (slotI (wrapS (by omega))) trivial)))))))) ?_)))
          exact And.intro (And.intro (hopR p k U T Z C S) rfl) (And.intro (And.intro (rowEq fun _ _ => rfl) rfl) (And.intro (And.intro (rowEq fun _ _ => rfl) rfl) (And.intro (And.intro (rowEq fun q hq => rfl) rfl) (And.intro (And.intro (algR p k U T) rfl) trivial))))
    · have hge := of_decide_eq_false h
      obtain rfl : j = n := by omega
      (repeat (first | refine And.intro (by omega) ?_ | refine And.intro ⟨by omega, by omega⟩ ?_))
      refine rowEq fun q hq => ?_
      show updR _ 0 8 _ q = _
      simp [updR, hq]

theorem l03FoldedT_s (p : Int) (n : Nat) (U T Z C S R : Nat → Int) (hV : HV p n U T Z C S) (hR : isU8 64 R) (hRz : ∀ a m, a < 8 → m < 8 → n ≤ m → partF R 8 a m = 0) (i : Nat) (hi : i < n) :
    Spec Try.prog 98 [hopV p n U T Z C S, .int .i64 i, .ints .u8 64 R, .bool true] [] (Ret (.ints .u8 8 fun y => foldT p n T C R true i n y % p)) := by
  have hn := hV.a.hn
  have hp := hV.a.hp
  have hT := hV.hT
  have hidx : (i : Int).toNat = i := by omega
  refine Spec.ret rfl (Spec.of_vc tabOK tabEq Try.func98 rfl (by kernel_rfl) rfl rfl ?_)
  refine And.intro trivial (Spec.mono (l03Algebra_s p n U T Z C S) ?_)
  rintro r m ⟨rfl, rfl⟩
  (repeat (first | refine And.intro (by omega) ?_ | refine And.intro ⟨by omega, by omega⟩ ?_))
  refine LoopVC.of (fun j : Nat => j ≤ n) (fun j => [(1, .int .i64 i), (3, .bool true), (4, .ptr 0 [] 0 0), (6, .ptr 1 [] 0 0), (8, .ptr 2 [] 0 0), (9, .ptr 3 [] 0 0), (10, .ptr 4 [] 0 0), (11, .int .i64 j)])
    (fun j => [some (hopV p n U T Z C S, 1106), some (.ints .u8 64 R, 64), some (.ints .u8 8 fun _ => 0, 8), some (.ints .u8 8 fun y => foldT p n T C R true i j y % p, 8), some (algV p n U T, 522)]) (fun j => n - j) 0 (by omega) ?_ ?_ ?_
  · exact (And.intro rfl (And.intro rfl (And.intro rfl (And.intro rfl (And.intro rfl (And.intro rfl (And.intro rfl (And.intro rfl (trivial)))))))))
  · exact And.intro (And.intro (hopR p n U T Z C S) rfl) (And.intro (And.intro (rowEq fun _ _ => rfl) rfl) (And.intro (And.intro (rowEq fun _ _ => rfl) rfl) (And.intro (And.intro (rowEq fun q hq => by show updR _ 0 8 _ q = _; simp [updR, hq, foldT, sumN]) rfl) (And.intro (And.intro (algR p n U T) rfl) trivial))))
  · intro j hj
    refine ifVC_split (fun h => ?_) (fun h => ?_)
    · have hltj := of_decide_eq_true h
      have hjdx : (j : Int).toNat = j := by omega
      refine LoopVC.of (fun k : Nat => k ≤ n) (fun k => [(1, .int .i64 i), (3, .bool true), (4, .ptr 0 [] 0 0), (6, .ptr 1 [] 0 0), (8, .ptr 2 [] 0 0), (9, .ptr 3 [] 0 0), (10, .ptr 4 [] 0 0), (11, .int .i64 j), (12, .int .i64 k)])
        (fun k => [some (hopV p n U T Z C S, 1106), some (.ints .u8 64 R, 64), some (.ints .u8 8 fun _ => 0, 8), some (.ints .u8 8 fun y => (foldT p n T C R true i j y + foldN p T C R true i j k y) % p, 8), some (algV p n U T, 522)]) (fun k => n - k) 0 (by omega) ?_ ?_ ?_
      · exact (And.intro rfl (And.intro rfl (And.intro rfl (And.intro rfl (And.intro rfl (And.intro rfl (And.intro rfl (And.intro rfl (And.intro rfl (trivial))))))))))
      · exact And.intro (And.intro (hopR p n U T Z C S) rfl) (And.intro (And.intro (rowEq fun _ _ => rfl) rfl) (And.intro (And.intro (rowEq fun _ _ => rfl) rfl) (And.intro (And.intro (rowEq fun q hq => by simp [foldN, sumN]) rfl) (And.intro (And.intro (algR p n U T) rfl) trivial))))
      · intro k hk
        refine ifVC_split (fun h => ?_) (fun h => ?_)
        · have hltk := of_decide_eq_true h
          have hkdx : (k : Int).toNat = k := by omega
          have hcv : C ((k : Int).toNat * 1 + ((j : Int).toNat * 8 + ((i : Int).toNat * 64 + 0))) = vecT C i j k := by rw [hjdx, hidx, hkdx]; unfold vecT; congr 1; omega
          have hcb := vec_u8 hV.hC (show i < 8 by omega) (show j < 8 by omega) (show k < 8 by omega)
          (repeat (first | refine And.intro (by omega) ?_ | refine And.intro ⟨by omega, by omega⟩ ?_))
          have hcw : IntKind.i64.wrap (C ((k : Int).toNat * 1 + ((j : Int).toNat * 8 + ((i : Int).toNat * 64 + 0)))) = vecT C i j k := by rw [hcv]; exact wrapI (by omega)
          refine ifVC_split (fun hc => ?_) (fun hc => ?_)
          · refine Exists.intro 8 (And.intro (by kernel_rfl) ?_)
            (repeat (first | refine And.intro (by omega) ?_ | refine And.intro ⟨by omega, by omega⟩ ?_))
            refine Exists.intro (.ints .u8 8 (unitV k)) (And.intro (And.intro rfl (And.intro rfl (Spec.mono (l01Basis_s k (by omega)) fun r m h => by rw [hkdx] at h; exact h.1))) ?_)
            refine Exists.intro (.ints .u8 8 fun y => timS p n T (partF R 8 j) (unitV k) n y % p) (And.intro (And.intro rfl (And.intro rfl ?_)) ?_)
            · refine Spec.mono (l01Times_s p n U T _ _ hp hn hT (fun q hq => hR _ (by omega)) (unitV_u8 k 8)) ?_
              rintro r m ⟨rfl, _⟩
              rw [hjdx]
              rfl
            (repeat (first | refine And.intro (by omega) ?_ | refine And.intro ⟨by omega, by omega⟩ ?_))
            refine Exists.intro 7 (And.intro (by kernel_rfl) ?_)
            (repeat (first | refine And.intro (by omega) ?_ | refine And.intro ⟨by omega, by omega⟩ ?_))
            refine Exists.intro (.ints .u8 8 (unitV j)) (And.intro (And.intro rfl (And.intro rfl (Spec.mono (l01Basis_s j (by omega)) fun r m h => by rw [hjdx] at h; exact h.1))) ?_)
            (repeat (first | refine And.intro (by omega) ?_ | refine And.intro ⟨by omega, by omega⟩ ?_))
            refine Exists.intro (.ints .u8 8 fun y => timS p n T (unitV j) (partF R 8 k) n y % p) (And.intro (And.intro rfl (And.intro rfl ?_)) ?_)
            · refine Spec.mono (l01Times_s p n U T _ _ hp hn hT (unitV_u8 j 8) (fun q hq => hR _ (by omega))) ?_
              rintro r m ⟨rfl, _⟩
              rw [hkdx]
              rfl
            have hrow : ∀ y, y < 8 → timS p n T (unitV j) (partF R 8 k) n y % p = owF p T R true j k y := fun y hy => prod_eq hV.a (fun m h1 h2 => unitV_ne (by omega)) (fun m h1 h2 => hRz k m (by omega) h2 h1) hy
            (repeat (first | refine And.intro (by omega) ?_ | refine And.intro ⟨by omega, by omega⟩ ?_))
            refine And.intro trivial (Spec.mono (l01Add_s p _ _ _ hp (by rw [hcw]; omega) (fun q hq => modB hp) (fun q hq => by simp only [updR]; rw [if_pos (by omega)]; exact modB hp)) ?_)
            rintro r m ⟨rfl, rfl⟩
            (repeat (first | refine And.intro (by omega) ?_ | refine And.intro ⟨by omega, by omega⟩ ?_))
            refine Exists.intro (k + 1) (And.intro (by omega) (And.intro (by omega) (And.intro (And.intro rfl (And.intro rfl (And.intro rfl (And.intro rfl (And.intro rfl (And.intro rfl (And.intro rfl (And.intro rfl (And.intro (slotI (wrapS (by omega))) trivial))))))))) ?_)))
            refine And.intro (And.intro (hopR p n U T Z C S) rfl) (And.intro (And.intro (rowEq fun _ _ => rfl) rfl) (And.intro (And.intro (rowEq fun _ _ => rfl) rfl) (And.intro (And.intro (rowEq fun q hq => ?_) rfl) (And.intro (And.intro (algR p n U T) rfl) trivial))))
            have e := hrow q hq
            show updR _ 0 8 _ q = (foldT p n T C R true i j q + (foldN p T C R true i j k q + vecT C i j k * owF p T R true j k q)) % p
            simp only [updR, Nat.zero_le, true_and, Nat.zero_add, hq, if_true, Nat.sub_zero, addM, Nat.add_zero]
            simp only [Nat.add_zero] at hcw
            rw [hcw, e, mod_add, Int.add_assoc]
          · have hc : vecT C i j k = 0 := by rw [← hcw]; simpa using hc
            refine Exists.intro (k + 1) (And.intro (by omega) (And.intro (by omega) (And.intro (And.intro rfl (And.intro rfl (And.intro rfl (And.intro rfl (And.intro rfl (And.intro rfl (And.intro rfl (And.intro rfl (And.intro (slotI (wrapS (by omega))) trivial))))))))) ?_)))
            refine And.intro (And.intro (hopR p n U T Z C S) rfl) (And.intro (And.intro (rowEq fun _ _ => rfl) rfl) (And.intro (And.intro (rowEq fun _ _ => rfl) rfl) (And.intro (And.intro (rowEq fun q hq => ?_) rfl) (And.intro (And.intro (algR p n U T) rfl) trivial))))
            show _ = (foldT p n T C R true i j q + (foldN p T C R true i j k q + vecT C i j k * owF p T R true j k q)) % p
            rw [hc]
            simp
        · have hge := of_decide_eq_false h
          obtain rfl : k = n := by omega
          refine Exists.intro (j + 1) (And.intro (by omega) (And.intro (by omega) (And.intro (And.intro rfl (And.intro rfl (And.intro rfl (And.intro rfl (And.intro rfl (And.intro rfl (And.intro rfl (And.intro (slotI (wrapS (by omega))) trivial)))))))) ?_)))
          exact And.intro (And.intro (hopR p k U T Z C S) rfl) (And.intro (And.intro (rowEq fun _ _ => rfl) rfl) (And.intro (And.intro (rowEq fun _ _ => rfl) rfl) (And.intro (And.intro (rowEq fun q hq => rfl) rfl) (And.intro (And.intro (algR p k U T) rfl) trivial))))
    · have hge := of_decide_eq_false h
      obtain rfl : j = n := by omega
      (repeat (first | refine And.intro (by omega) ?_ | refine And.intro ⟨by omega, by omega⟩ ?_))
      refine rowEq fun q hq => ?_
      show updR _ 0 8 _ q = _
      simp [updR, hq]
end Go.Proofs.Ytjanlnngeklhoaa

/- The search for the first condition that fails, as the model makes it; both sides tell the same number. -/
set_option linter.unusedVariables false
set_option linter.unusedSimpArgs false
set_option maxRecDepth 100000
set_option maxHeartbeats 1000000
namespace Go.Proofs.Ytjanlnngeklhoaa
open M

/-! ### the antipode's axioms -/
def antB (p : Int) (n : Nat) (U T Z C R : Nat → Int) (b : Bool) : Bool := (List.range n).all fun i => allEq 8 (fun y => foldT p n T C R b i n y % p) (addM p (fun _ => 0) (Z i) U)

theorem idF_part {n b : Nat} (hb : b < n) : ∀ y, y < 8 → partF (idF n) 8 b y = unitV b y := fun y hy => by
  unfold partF idF
  rw [if_pos (by omega), show (y + b * 8) / 8 = b by omega, show (y + b * 8) % 8 = y by omega]
theorem cw_left {p : Int} {n : Nat} {Z C : Nat → Int} (hV : Valid p n Z (dualF C)) (T R : Nat → Int) {i b : Nat} (hi : i < 8) (hb : b < 8) (y : Nat) : cw p T C R (idF n) i b y = foldN p T C R false i b n y % p := by
  have hn := hV.hn
  unfold cw
  rw [prodF_apply]
  unfold foldN
  rw [sumN_cut 8 hn fun k h1 h2 => by rw [co_zero hV hi hb h2 (.inr (.inr h1))]; simp]
  congr 1
  refine sumN_congr n fun k hk => ?_
  congr 1
  exact prodF_congr (fun _ _ => rfl) (fun y hy => idF_part hk y hy) y
theorem cw_right {p : Int} {n : Nat} {Z C : Nat → Int} (hV : Valid p n Z (dualF C)) (T R : Nat → Int) {i b : Nat} (hi : i < 8) (hb : b < n) (y : Nat) : cw p T C (idF n) R i b y = foldN p T C R true i b n y % p := by
  have hn := hV.hn
  unfold cw
  rw [prodF_apply]
  unfold foldN
  rw [sumN_cut 8 hn fun k h1 h2 => by rw [co_zero hV hi (by omega) h2 (.inr (.inr h1))]; simp]
  congr 1
  refine sumN_congr n fun k hk => ?_
  congr 1
  exact prodF_congr (fun y hy => idF_part hb y hy) (fun _ _ => rfl) y
theorem conv_fold {p : Int} {n : Nat} {T C R F G : Nat → Int} {b : Bool} {i y : Nat} (h : ∀ a, a < n → cw p T C F G i a y = foldN p T C R b i a n y % p) : convN p T C F G i n y % p = foldT p n T C R b i n y % p := by
  unfold convN foldT
  rw [sumN_congr n h, sumN_modl]
theorem ant_is {p : Int} {n : Nat} {U T Z C S R F G : Nat → Int} {b : Bool} (hV : HV p n U T Z C S) (h : ∀ i y, i < n → convN p T C F G i n y % p = foldT p n T C R b i n y % p) :
    antB p n U T Z C R b = allEq 64 (convF p n T C F G) (tenF p Z U) := by
  have hn := hV.a.hn
  rw [Bool.eq_iff_iff]
  constructor
  · intro ha
    refine List.all_eq_true.2 fun q hq => ?_
    have hq := List.mem_range.1 hq
    unfold convF tenF
    by_cases hr : q / 8 < n
    · have := allEq_get (List.all_eq_true.1 ha (q / 8) (List.mem_range.2 hr)) (show q % 8 < 8 by omega)
      rw [if_pos hr, h _ _ hr]
      unfold addM at this
      rw [Int.zero_add] at this
      simpa using this
    · rw [if_neg hr, hV.c.uzero (q / 8) (by omega) (by omega)]
      simp
  · intro ha
    refine List.all_eq_true.2 fun i hi => List.all_eq_true.2 fun y hy => ?_
    have hi := List.mem_range.1 hi
    have hy := List.mem_range.1 hy
    have := allEq_get ha (show i * 8 + y < 64 by omega)
    unfold convF tenF at this
    rw [show (i * 8 + y) / 8 = i by omega, show (i * 8 + y) % 8 = y by omega, if_pos hi, h _ _ hi] at this
    unfold addM
    rw [Int.zero_add]
    simpa using this
theorem ant_left {p : Int} {n : Nat} {U T Z C S : Nat → Int} (hV : HV p n U T Z C S) : antB p n U T Z C S false = ax6B p n U T Z C S := by
  have hn := hV.a.hn
  exact ant_is hV fun i y hi => conv_fold fun a ha => cw_left hV.c T S (by omega) (by omega) y
theorem ant_right {p : Int} {n : Nat} {U T Z C S : Nat → Int} (hV : HV p n U T Z C S) : antB p n U T Z C S true = ax7B p n U T Z C S := by
  have hn := hV.a.hn
  exact ant_is hV fun i y hi => conv_fold fun a ha => cw_right hV.c T S (by omega) ha y

theorem l03Folded_s {p : Int} {n : Nat} {U T Z C S R : Nat → Int} (hV : HV p n U T Z C S) (hR : isU8 64 R) (hRz : ∀ a m, a < 8 → m < 8 → n ≤ m → partF R 8 a m = 0) (b : Bool) (i : Nat) (hi : i < n) :
    Spec Try.prog 98 [hopV p n U T Z C S, .int .i64 i, .ints .u8 64 R, .bool b] [] (Ret (.ints .u8 8 fun y => foldT p n T C R b i n y % p)) := by
  cases b
  · exact l03FoldedF_s p n U T Z C S R hV hR hRz i hi
  · exact l03FoldedT_s p n U T Z C S R hV hR hRz i hi

theorem l03Antipode_s (p : Int) (n : Nat) (U T Z C S R : Nat → Int) (hV : HV p n U T Z C S) (hR : isU8 64 R) (hRz : ∀ a m, a < 8 → m < 8 → n ≤ m → partF R 8 a m = 0) (b : Bool) :
    Spec Try.prog 73 [hopV p n U T Z C S, .ints .u8 64 R, .bool b] [] (Ret (.bool (antB p n U T Z C R b))) := by
  have hn := hV.a.hn
  have hp := hV.a.hp
  refine Spec.ret rfl (Spec.of_vc tabOK tabEq Try.func73 rfl (by kernel_rfl) rfl rfl ?_)
  refine LoopVC.of (fun i : Nat => i ≤ n ∧ ∀ i', i' < i → allEq 8 (fun y => foldT p n T C R b i' n y % p) (addM p (fun _ => 0) (Z i') U) = true) (fun i => [(2, .bool b), (3, .ptr 0 [] 0 0), (4, .ptr 1 [] 0 0), (7, .int .i64 i)]) (fun _ => [some (hopV p n U T Z C S, 1106), some (.ints .u8 64 R, 64)]) (fun i => n - i) 0 ⟨by omega, fun i' h => by omega⟩ ?_ ?_ ?_
  · exact (And.intro rfl (And.intro rfl (And.intro rfl (And.intro rfl (trivial)))))
  · exact And.intro (And.intro (hopR p n U T Z C S) rfl) (And.intro (And.intro (rowEq fun _ _ => rfl) rfl) trivial)
  · rintro i ⟨hi, hall⟩
    refine ifVC_split (fun h => ?_) (fun h => ?_)
    · have hlt := of_decide_eq_true h
      have hzi := hV.hZ i (by omega)
      have hzw : IntKind.i64.wrap (Z ((i : Int).toNat * 1 + 0)) = Z i := by rw [show (i : Int).toNat * 1 + 0 = i by omega]; exact wrapI (by omega)
      refine Exists.intro 16 (And.intro (by kernel_rfl) ?_)
      (repeat (first | refine And.intro (by omega) ?_ | refine And.intro ⟨by omega, by omega⟩ ?_))
      refine Exists.intro (.ints .u8 8 fun y => foldT p n T C R b i n y % p) (And.intro (And.intro rfl (And.intro rfl (Spec.mono (l03Folded_s hV (fun q hq => hR _ (by omega)) hRz b i (by omega)) fun r m h => h.1))) ?_)
      (repeat (first | refine And.intro (by omega) ?_ | refine And.intro ⟨by omega, by omega⟩ ?_))
      refine Exists.intro (.ints .u8 8 (addM p (fun _ => 0) (Z i) U)) (And.intro (And.intro rfl (And.intro rfl ?_)) ?_)
      · refine Spec.mono (l01Add_s p _ _ _ hp (by rw [hzw]; omega) (fun q _ => by constructor <;> omega) (fun q hq => hV.hU _ (by omega))) ?_
        rintro r m ⟨rfl, _⟩
        rw [hzw]
        rfl
      refine ifVC_split (fun hc => ?_) (fun hc => ?_)
      · have hc : allEq 8 (fun y => foldT p n T C R b i n y % p) (addM p (fun _ => 0) (Z i) U) = false := by simpa using hc
        refine boolEq ?_
        cases ha : antB p n U T Z C R b with
        | false => rfl
        | true => have := List.all_eq_true.1 ha i (List.mem_range.2 (by omega)); rw [hc] at this; cases this
      · have hc : allEq 8 (fun y => foldT p n T C R b i n y % p) (addM p (fun _ => 0) (Z i) U) = true := by simpa using hc
        refine Exists.intro (i + 1) (And.intro ⟨by omega, fun i' hi' => ?_⟩ (And.intro (by omega) (And.intro (And.intro rfl (And.intro rfl (And.intro rfl (And.intro (slotI (wrapS (by omega))) trivial)))) (And.intro (And.intro (hopR p n U T Z C S) rfl) (And.intro (And.intro (rowEq fun _ _ => rfl) rfl) trivial)))))
        by_cases hii : i' = i
        · subst hii; exact hc
        · exact hall i' (by omega)
    · have hge := of_decide_eq_false h
      obtain rfl : i = n := by omega
      exact boolEq (by
        have : antB p i U T Z C R b = true := List.all_eq_true.2 fun i' hi' => hall i' (List.mem_range.1 hi')
        rw [this])

/-! ### the axioms of bialgebras -/
def biN (p : Int) (n : Nat) (U T Z C : Nat → Int) : Nat :=
  if algB p n U T = false then 1 else if coB p n Z C = false then 2 else if all2 n (ax3 p T C) = false then 3 else if ax4B p U C = false then 4
  else if (all2 n (ax5 p T Z) && (cnt p Z U == 1)) = false then 5 else 0
theorem fail_bi (p : Int) (n : Nat) (U T Z C S : Nat → Int) : failN p n U T Z C S = if biN p n U T Z C = 0 then (if ax6B p n U T Z C S = false then 6 else if ax7B p n U T Z C S = false then 7 else 0) else biN p n U T Z C := by
  unfold failN biN
  by_cases h0 : algB p n U T = false
  · simp [h0]
  by_cases h1 : coB p n Z C = false
  · simp [h0, h1]
  by_cases h2 : all2 n (ax3 p T C) = false
  · simp [h0, h1, h2]
  by_cases h3 : ax4B p U C = false
  · simp [h0, h1, h2, h3]
  by_cases h4 : (all2 n (ax5 p T Z) && (cnt p Z U == 1)) = false
  · rw [if_neg h0, if_neg h1, if_neg h2, if_neg h3, if_pos h4, if_neg h0, if_neg h1, if_neg h2, if_neg h3, if_pos h4]; simp
  · rw [if_neg h0, if_neg h1, if_neg h2, if_neg h3, if_neg h4, if_neg h0, if_neg h1, if_neg h2, if_neg h3, if_neg h4]; simp

def rowU (p : Int) (U C : Nat → Int) (j : Nat) : Bool := allEq 8 (partF (leftT p C U) 8 j) (addM p (fun _ => 0) (U j) U)
theorem ax4_yes {p : Int} {n : Nat} {U T Z C S : Nat → Int} (hV : HV p n U T Z C S) (h : ∀ j, j < n → rowU p U C j = true) : ax4B p U C = true := by
  have hn := hV.a.hn
  refine List.all_eq_true.2 fun q hq => ?_
  have hq := List.mem_range.1 hq
  unfold tenF
  by_cases hr : q / 8 < n
  · have := allEq_get (h _ hr) (show q % 8 < 8 by omega)
    unfold partF addM at this
    rw [show q % 8 + q / 8 * 8 = q by omega, Int.zero_add] at this
    simpa using this
  · rw [cop_left hV.c (fun i h1 h2 => hV.a.uzero i h2 h1) hq, if_neg hr, hV.a.uzero (q / 8) (by omega) (by omega)]
    simp
theorem ax4_no {p : Int} {U C : Nat → Int} {j : Nat} (hj : j < 8) (h : rowU p U C j = false) : ax4B p U C = false := by
  cases ha : ax4B p U C with
  | false => rfl
  | true =>
    have : rowU p U C j = true := List.all_eq_true.2 fun y hy => by
      have hy := List.mem_range.1 hy
      have := allEq_get ha (show y + j * 8 < 64 by omega)
      unfold tenF at this
      rw [show (y + j * 8) / 8 = j by omega, show (y + j * 8) % 8 = y by omega] at this
      unfold partF addM
      rw [Int.zero_add]
      simpa using this
    rw [h] at this; cases this

theorem co_part {p : Int} {n : Nat} {U T Z C S : Nat → Int} (hV : HV p n U T Z C S) {i : Nat} (hi : i < 8) : ∀ a m, a < 8 → m < 8 → n ≤ m → partF (partF C 64 i) 8 a m = 0 := fun a m ha hm h => by
  have := co_zero hV.c hi ha hm (.inr (.inr h))
  unfold vecT at this
  unfold partF
  rw [Nat.add_assoc]
  exact this

theorem l03Bialgebra_s (p : Int) (n : Nat) (U T Z C S : Nat → Int) (hV : HV p n U T Z C S) : Spec Try.prog 72 [hopV p n U T Z C S] [] (Ret (.int .i64 (biN p n U T Z C))) := by
  have hn := hV.a.hn
  have hp := hV.a.hp
  refine Spec.ret rfl (Spec.of_vc tabOK tabEq Try.func72 rfl (by kernel_rfl) rfl rfl ?_)
  refine Exists.intro 6 (And.intro (by kernel_rfl) ?_)
  refine Exists.intro (algV p n U T) (And.intro (And.intro rfl (And.intro rfl (Spec.mono (l03Algebra_s p n U T Z C S) fun r m h => h.1))) ?_)
  refine And.intro trivial (Spec.mono (l01Is_s p n U T hV.hU hV.hT) ?_)
  rintro r m ⟨rfl, rfl⟩
  refine ifVC_split (fun h0 => ?_) (fun h0 => ?_)
  · have h0 : algB p n U T = false := by simpa using h0
    exact slotI (by unfold biN; rw [if_pos h0]; rfl)
  have h0 : algB p n U T = true := by simpa using h0
  have n0 : ¬ algB p n U T = false := by rw [h0]; simp
  refine And.intro trivial (Spec.mono (l03Coalgebra_s p n U T Z C S) ?_)
  rintro r m ⟨rfl, rfl⟩
  refine And.intro trivial (Spec.mono (l02Is_s p n Z C hV.hZ hV.hC) ?_)
  rintro r m ⟨rfl, rfl⟩
  refine ifVC_split (fun h1 => ?_) (fun h1 => ?_)
  · have h1 : coB p n Z C = false := by simpa using h1
    exact slotI (by unfold biN; rw [if_neg n0, if_pos h1]; rfl)
  have h1 : coB p n Z C = true := by simpa using h1
  have n1 : ¬ coB p n Z C = false := by rw [h1]; simp
  refine LoopVC.of (fun i : Nat => i ≤ n ∧ ∀ a b, a < i → b < n → ax3 p T C a b = true) (fun i => [(1, .ptr 0 [] 0 0), (3, .int .i64 n), (5, .int .i64 i)]) (fun _ => [some (hopV p n U T Z C S, 1106), none]) (fun i => n - i) 0 ⟨by omega, fun a b h => by omega⟩ ?_ ?_ ?_
  · exact (And.intro rfl (And.intro rfl (And.intro rfl (trivial))))
  · exact And.intro (And.intro (hopR p n U T Z C S) rfl) trivial
  · rintro i ⟨hi, hall⟩
    refine ifVC_split (fun h => ?_) (fun h => ?_)
    · have hlti := of_decide_eq_true h
      have hidx : (i : Int).toNat = i := by omega
      refine LoopVC.of (fun j : Nat => j ≤ n ∧ ∀ b, b < j → ax3 p T C i b = true) (fun j => [(1, .ptr 0 [] 0 0), (3, .int .i64 n), (5, .int .i64 i), (6, .int .i64 j)]) (fun _ => [some (hopV p n U T Z C S, 1106), none]) (fun j => n - j) 0 ⟨by omega, fun b h => by omega⟩ ?_ ?_ ?_
      · exact (And.intro rfl (And.intro rfl (And.intro rfl (And.intro rfl (trivial)))))
      · exact And.intro (And.intro (hopR p n U T Z C S) rfl) trivial
      · rintro j ⟨hj, hallj⟩
        refine ifVC_split (fun h => ?_) (fun h => ?_)
        · have hltj := of_decide_eq_true h
          have hjdx : (j : Int).toNat = j := by omega
          refine Exists.intro 18 (And.intro (by kernel_rfl) ?_)
          (repeat (first | refine And.intro (by omega) ?_ | refine And.intro ⟨by omega, by omega⟩ ?_))
          refine Exists.intro (.ints .u8 64 (leftT p C (vecT T i j))) (And.intro (And.intro rfl (And.intro rfl ?_)) ?_)
          · rw [vec_is T i j hidx hjdx]
            exact Spec.mono (l03Coproduct_s p n U T Z C S _ hV.c hV.hC (vecT_u8 hV.hT (by omega) (by omega)) (fun m h1 h2 => hV.a.zero i j m (by omega) (by omega) h2 (.inr (.inr h1)))) fun r m h => h.1
          (repeat (first | refine And.intro (by omega) ?_ | refine And.intro ⟨by omega, by omega⟩ ?_))
          refine Exists.intro (.ints .u8 64 (pairsF p T (partF C 64 i) (partF C 64 j))) (And.intro (And.intro rfl (And.intro rfl ?_)) ?_)
          · rw [row_is C i hidx, row_is C j hjdx]
            exact Spec.mono (l03Pairs_s p n U T Z C S _ _ hV (part_u8 hV.hC (by omega)) (part_u8 hV.hC (by omega)) (co_part hV (by omega)) (co_part hV (by omega))) fun r m h => h.1
          refine ifVC_split (fun hc => ?_) (fun hc => ?_)
          · have hc : ax3 p T C i j = false := by
              unfold ax3
              simpa using hc
            exact slotI (by unfold biN; rw [if_neg n0, if_neg n1, if_pos (all2_no (by omega) (by omega) hc)]; rfl)
          · have hc : ax3 p T C i j = true := by
              unfold ax3
              simpa using hc
            refine Exists.intro (j + 1) (And.intro ⟨by omega, fun b hb => ?_⟩ (And.intro (by omega) (And.intro (And.intro rfl (And.intro rfl (And.intro rfl (And.intro (slotI (wrapS (by omega))) trivial)))) (And.intro (And.intro (hopR p n U T Z C S) rfl) trivial))))
            by_cases hbj : b = j
            · subst hbj; exact hc
            · exact hallj b (by omega)
        · have hge := of_decide_eq_false h
          refine Exists.intro (i + 1) (And.intro ⟨by omega, fun a b ha hb => ?_⟩ (And.intro (by omega) (And.intro (And.intro rfl (And.intro rfl (And.intro (slotI (wrapS (by omega))) trivial))) (And.intro (And.intro (hopR p n U T Z C S) rfl) trivial))))
          by_cases hai : a = i
          · subst hai; exact hallj b (by omega)
          · exact hall a b (by omega) hb
    · have hge := of_decide_eq_false h
      have h3 : all2 n (ax3 p T C) = true := all2_yes fun a b ha hb => hall a b (by omega) hb
      have n3 : ¬ all2 n (ax3 p T C) = false := by rw [h3]; simp
      (repeat (first | refine And.intro (by omega) ?_ | refine And.intro ⟨by omega, by omega⟩ ?_))
      refine And.intro trivial (Spec.mono (l03Coproduct_s p n U T Z C S _ hV.c hV.hC (fun q hq => hV.hU _ (by omega)) (fun m h1 h2 => hV.a.uzero m h2 h1)) ?_)
      rintro r m ⟨rfl, rfl⟩
      (repeat (first | refine And.intro (by omega) ?_ | refine And.intro ⟨by omega, by omega⟩ ?_))
      refine LoopVC.of (fun j : Nat => j ≤ n ∧ ∀ b, b < j → rowU p U C b = true) (fun j => [(1, .ptr 0 [] 0 0), (3, .int .i64 n), (7, .ptr 2 [] 0 0), (8, .int .i64 j)]) (fun _ => [some (hopV p n U T Z C S, 1106), none, some (.ints .u8 64 (leftT p C U), 64)]) (fun j => n - j) 0 ⟨by omega, fun b h => by omega⟩ ?_ ?_ ?_
      · exact (And.intro rfl (And.intro rfl (And.intro rfl (And.intro rfl (trivial)))))
      · exact And.intro (And.intro (hopR p n U T Z C S) rfl) (And.intro (And.intro (rowEq fun q hq => upd0 hq) rfl) trivial)
      · rintro j ⟨hj, hallj⟩
        refine ifVC_split (fun h => ?_) (fun h => ?_)
        · have hltj := of_decide_eq_true h
          have hjdx : (j : Int).toNat = j := by omega
          have huj := hV.hU j (by omega)
          have huw : IntKind.i64.wrap (U ((j : Int).toNat * 1 + 0)) = U j := by rw [show (j : Int).toNat * 1 + 0 = j by omega]; exact wrapI (by omega)
          refine Exists.intro 14 (And.intro (by kernel_rfl) ?_)
          (repeat (first | refine And.intro (by omega) ?_ | refine And.intro ⟨by omega, by omega⟩ ?_))
          refine Exists.intro (.ints .u8 8 (addM p (fun _ => 0) (U j) U)) (And.intro (And.intro rfl (And.intro rfl ?_)) ?_)
          · refine Spec.mono (l01Add_s p _ _ _ hp (by rw [huw]; omega) (fun q _ => by constructor <;> omega) (fun q hq => hV.hU _ (by omega))) ?_
            rintro r m ⟨rfl, _⟩
            rw [huw]
            rfl
          have he : allEq 8 (fun q => leftT p C U (q + ((j : Int).toNat * 8 + 0))) (addM p (fun _ => 0) (U j) U) = rowU p U C j := by rw [hjdx]; rfl
          refine ifVC_split (fun hc => ?_) (fun hc => ?_)
          · have hc : rowU p U C j = false := by rw [← he]; simpa using hc
            exact slotI (by unfold biN; rw [if_neg n0, if_neg n1, if_neg n3, if_pos (ax4_no (by omega) hc)]; rfl)
          · have hc : rowU p U C j = true := by rw [← he]; simpa using hc
            refine Exists.intro (j + 1) (And.intro ⟨by omega, fun b hb => ?_⟩ (And.intro (by omega) (And.intro (And.intro rfl (And.intro rfl (And.intro rfl (And.intro (slotI (wrapS (by omega))) trivial)))) (And.intro (And.intro (hopR p n U T Z C S) rfl) (And.intro (And.intro (rowEq fun _ _ => rfl) rfl) trivial)))))
            by_cases hbj : b = j
            · subst hbj; exact hc
            · exact hallj b (by omega)
        · have hge := of_decide_eq_false h
          have h4 : ax4B p U C = true := ax4_yes hV fun b hb => hallj b (by omega)
          have n4 : ¬ ax4B p U C = false := by rw [h4]; simp
          refine LoopVC.of (fun i : Nat => i ≤ n ∧ ∀ a b, a < i → b < n → ax5 p T Z a b = true) (fun i => [(1, .ptr 0 [] 0 0), (3, .int .i64 n), (9, .int .i64 i)]) (fun _ => [some (hopV p n U T Z C S, 1106), none, none]) (fun i => n - i) 0 ⟨by omega, fun a b h => by omega⟩ ?_ ?_ ?_
          · exact (And.intro rfl (And.intro rfl (And.intro rfl (trivial))))
          · exact And.intro (And.intro (hopR p n U T Z C S) rfl) trivial
          · rintro i ⟨hi, hall5⟩
            refine ifVC_split (fun h => ?_) (fun h => ?_)
            · have hlti := of_decide_eq_true h
              have hidx : (i : Int).toNat = i := by omega
              refine LoopVC.of (fun j : Nat => j ≤ n ∧ ∀ b, b < j → ax5 p T Z i b = true) (fun j => [(1, .ptr 0 [] 0 0), (3, .int .i64 n), (9, .int .i64 i), (10, .int .i64 j)]) (fun _ => [some (hopV p n U T Z C S, 1106), none, none]) (fun j => n - j) 0 ⟨by omega, fun b h => by omega⟩ ?_ ?_ ?_
              · exact (And.intro rfl (And.intro rfl (And.intro rfl (And.intro rfl (trivial)))))
              · exact And.intro (And.intro (hopR p n U T Z C S) rfl) trivial
              · rintro j ⟨hj, hallj⟩
                refine ifVC_split (fun h => ?_) (fun h => ?_)
                · have hltj := of_decide_eq_true h
                  have hjdx : (j : Int).toNat = j := by omega
                  refine Exists.intro 22 (And.intro (by kernel_rfl) ?_)
                  (repeat (first | refine And.intro (by omega) ?_ | refine And.intro ⟨by omega, by omega⟩ ?_))
                  refine Exists.intro (.int .i64 (cnt p Z (vecT T i j))) (And.intro (And.intro rfl (And.intro rfl ?_)) ?_)
                  · rw [vec_is T i j hidx hjdx]
                    exact Spec.mono (l03Counit_s p n U T Z C S _ hp hn hV.hZ (vecT_u8 hV.hT (by omega) (by omega)) (fun m h1 h2 => hV.a.zero i j m (by omega) (by omega) h2 (.inr (.inr h1)))) fun r m h => h.1
                  (repeat (first | refine And.intro (by omega) ?_ | refine And.intro ⟨by omega, by omega⟩ ?_))
                  have zi := hV.hZ i (by omega)
                  have zj := hV.hZ j (by omega)
                  have zz := mulB zi zj
                  have hb : IntKind.i64.wrap (IntKind.i64.wrap (Z ((i : Int).toNat * 1 + 0)) * IntKind.i64.wrap (Z ((j : Int).toNat * 1 + 0))) = Z i * Z j := by
                    rw [show (i : Int).toNat * 1 + 0 = i by omega, show (j : Int).toNat * 1 + 0 = j by omega, wrapI (x := Z i) (by omega), wrapI (x := Z j) (by omega), wrapI (by omega)]
                  refine ifVC_split (fun hc => ?_) (fun hc => ?_)
                  · have hc : ax5 p T Z i j = false := by rw [hb, Int.tmod_eq_emod_of_nonneg zz.1] at hc; unfold ax5; simpa using hc
                    exact slotI (by unfold biN; rw [if_neg n0, if_neg n1, if_neg n3, if_neg n4, if_pos (by rw [all2_no (by omega) (by omega) hc]; rfl)]; rfl)
                  · have hc : ax5 p T Z i j = true := by rw [hb, Int.tmod_eq_emod_of_nonneg zz.1] at hc; unfold ax5; simpa using hc
                    refine Exists.intro (j + 1) (And.intro ⟨by omega, fun b hb => ?_⟩ (And.intro (by omega) (And.intro (And.intro rfl (And.intro rfl (And.intro rfl (And.intro (slotI (wrapS (by omega))) trivial)))) (And.intro (And.intro (hopR p n U T Z C S) rfl) trivial))))
                    by_cases hbj : b = j
                    · subst hbj; exact hc
                    · exact hallj b (by omega)
                · have hge := of_decide_eq_false h
                  refine Exists.intro (i + 1) (And.intro ⟨by omega, fun a b ha hb => ?_⟩ (And.intro (by omega) (And.intro (And.intro rfl (And.intro rfl (And.intro (slotI (wrapS (by omega))) trivial))) (And.intro (And.intro (hopR p n U T Z C S) rfl) trivial))))
                  by_cases hai : a = i
                  · subst hai; exact hallj b (by omega)
                  · exact hall5 a b (by omega) hb
            · have hge := of_decide_eq_false h
              have h5 : all2 n (ax5 p T Z) = true := all2_yes fun a b ha hb => hall5 a b (by omega) hb
              (repeat (first | refine And.intro (by omega) ?_ | refine And.intro ⟨by omega, by omega⟩ ?_))
              refine And.intro trivial (Spec.mono (l03Counit_s p n U T Z C S _ hp hn hV.hZ (fun q hq => hV.hU _ (by omega)) (fun m h1 h2 => hV.a.uzero m h2 h1)) ?_)
              rintro r m ⟨rfl, rfl⟩
              have he : cnt p Z (fun j => U (j + 0)) = cnt p Z U := rfl
              refine ifVC_split (fun hc => ?_) (fun hc => ?_)
              · have hc : (cnt p Z U == 1) = false := by rw [← he]; simpa using hc
                exact slotI (by unfold biN; rw [if_neg n0, if_neg n1, if_neg n3, if_neg n4, if_pos (by rw [hc, Bool.and_false])]; rfl)
              · have hc : (cnt p Z U == 1) = true := by rw [← he]; simpa using hc
                exact slotI (by unfold biN; rw [if_neg n0, if_neg n1, if_neg n3, if_neg n4, if_neg (by rw [h5, hc]; simp)]; rfl)

theorem s_part {p : Int} {n : Nat} {U T Z C S : Nat → Int} (hV : HV p n U T Z C S) : ∀ a m, a < 8 → m < 8 → n ≤ m → partF S 8 a m = 0 := fun a m ha hm h => hV.szero a m ha hm (.inr h)

theorem anti_as (p : Int) (n : Nat) (U T Z C S : Nat → Int) (hV : HV p n U T Z C S) (b : Bool) :
    Spec Try.prog 73 [hopV p n U T Z C S, .ints .u8 64 (fun j => S (j + 0)), .bool b] [] (Ret (.bool (match b with | false => ax6B p n U T Z C S | true => ax7B p n U T Z C S))) := by
  cases b
  · have e : antB p n U T Z C (fun j => S (j + 0)) false = ax6B p n U T Z C S := ant_left hV
    show Spec Try.prog 73 _ [] (Ret (.bool (ax6B p n U T Z C S)))
    rw [← e]
    exact l03Antipode_s p n U T Z C S _ hV (fun q hq => hV.hS _ (by omega)) (s_part hV) false
  · have e : antB p n U T Z C (fun j => S (j + 0)) true = ax7B p n U T Z C S := ant_right hV
    show Spec Try.prog 73 _ [] (Ret (.bool (ax7B p n U T Z C S)))
    rw [← e]
    exact l03Antipode_s p n U T Z C S _ hV (fun q hq => hV.hS _ (by omega)) (s_part hV) true

theorem l03Fails_s (p : Int) (n : Nat) (U T Z C S : Nat → Int) (hV : HV p n U T Z C S) : Spec Try.prog 52 [hopV p n U T Z C S] [] (Ret (.int .i64 (failN p n U T Z C S))) := by
  refine Spec.ret rfl (Spec.of_vc tabOK tabEq Try.func52 rfl (by kernel_rfl) rfl rfl ?_)
  refine And.intro trivial (Spec.mono (l03Bialgebra_s p n U T Z C S hV) ?_)
  rintro r m ⟨rfl, rfl⟩
  refine ifVC_split (fun h => ?_) (fun h => ?_)
  · have h : ¬ biN p n U T Z C = 0 := by
      have h : (biN p n U T Z C : Int) ≠ 0 := by simpa using h
      omega
    exact slotI (by rw [fail_bi, if_neg h])
  have h : biN p n U T Z C = 0 := by
    have h : (biN p n U T Z C : Int) = 0 := by simpa using h
    omega
  (repeat (first | refine And.intro (by omega) ?_ | refine And.intro ⟨by omega, by omega⟩ ?_))
  refine And.intro trivial (Spec.mono (anti_as p n U T Z C S hV false) ?_)
  rintro r m ⟨rfl, rfl⟩
  refine ifVC_split (fun h6 => ?_) (fun h6 => ?_)
  · have h6 : ax6B p n U T Z C S = false := by simpa using h6
    exact slotI (by rw [fail_bi, if_pos h, if_pos h6]; rfl)
  have h6 : ax6B p n U T Z C S = true := by simpa using h6
  (repeat (first | refine And.intro (by omega) ?_ | refine And.intro ⟨by omega, by omega⟩ ?_))
  refine And.intro trivial (Spec.mono (anti_as p n U T Z C S hV true) ?_)
  rintro r m ⟨rfl, rfl⟩
  refine ifVC_split (fun h7 => ?_) (fun h7 => ?_)
  · have h7 : ax7B p n U T Z C S = false := by simpa using h7
    exact slotI (by rw [fail_bi, if_pos h, if_neg (by rw [h6]; simp), if_pos h7]; rfl)
  have h7 : ax7B p n U T Z C S = true := by simpa using h7
  exact slotI (by rw [fail_bi, if_pos h, if_neg (by rw [h6]; simp), if_neg (by rw [h7]; simp)]; rfl)

theorem l03Is_s (p n : Int) (U T Z C S : Nat → Int) (hU : isU8 8 U) (hT : isU8 512 T) (hZ : isU8 8 Z) (hC : isU8 512 C) (hS : isU8 64 S) :
    Spec Try.prog 27 [hopV p n U T Z C S] [] (Ret (.bool (hopB p n U T Z C S))) := by
  refine Spec.ret rfl (Spec.of_vc tabOK tabEq Try.func27 rfl (by kernel_rfl) rfl rfl ?_)
  refine And.intro trivial (Spec.mono (l03Shape_s p n U T Z C S hU hT hZ hC hS) ?_)
  rintro r m ⟨rfl, rfl⟩
  refine ifVC_split (fun h => ?_) (fun h => ?_)
  · obtain ⟨n, rfl, hV⟩ := hsh_valid hU hT hZ hC hS h
    refine And.intro trivial (Spec.mono (l03Fails_s p n U T Z C S hV) ?_)
    rintro r m ⟨rfl, rfl⟩
    refine boolEq ?_
    unfold hopB
    rw [h, Bool.true_and, Int.toNat_natCast, Bool.eq_iff_iff, beq_iff_eq, beq_iff_eq]
    omega
  · exact boolEq (by unfold hopB; rw [h]; rfl)
end Go.Proofs.Ytjanlnngeklhoaa

/- Functions of one Hopf algebra, on both sides, and the laws. -/
set_option linter.unusedVariables false
set_option linter.unusedSimpArgs false
set_option maxRecDepth 100000
set_option maxHeartbeats 1000000
namespace Go.Proofs.Ytjanlnngeklhoaa
open M

/-- nothing but zeros -/
abbrev zr : Nat → Int := fun _ => 0
theorem toHopf_s (p n : Int) (U T Z C S : Nat → Int) : Spec Try.prog 7 [hopV p n U T Z C S] [] (Ret (hopV p n U T Z C S)) := by
  refine Spec.ret rfl (Spec.of_vc tabOK tabEq Try.func7 rfl (by kernel_rfl) rfl rfl ?_)
  (repeat (first | refine And.intro (by omega) ?_ | refine And.intro ⟨by omega, by omega⟩ ?_))
  refine And.intro trivial (Spec.mono (toVector_s _) ?_)
  rintro r m ⟨rfl, rfl⟩
  change opsVC _ _ _ _ _ _ [some (hopV p n U T Z C S, 1106), some (hopV 0 0 zr zr zr zr zr, 1106), some (hopV p n zr zr zr zr zr, 1106)] _
  (repeat (first | refine And.intro (by omega) ?_ | refine And.intro ⟨by omega, by omega⟩ ?_))
  refine And.intro trivial (Spec.mono (toTable_s _) ?_)
  rintro r m ⟨rfl, rfl⟩
  change opsVC _ _ _ _ _ _ [some (hopV p n U T Z C S, 1106), some (hopV 0 0 zr zr zr zr zr, 1106), some (hopV p n (updR zr 0 8 U) zr zr zr zr, 1106)] _
  (repeat (first | refine And.intro (by omega) ?_ | refine And.intro ⟨by omega, by omega⟩ ?_))
  refine And.intro trivial (Spec.mono (toVector_s _) ?_)
  rintro r m ⟨rfl, rfl⟩
  change opsVC _ _ _ _ _ _ [some (hopV p n U T Z C S, 1106), some (hopV 0 0 zr zr zr zr zr, 1106), some (hopV p n (updR zr 0 8 U) (updR zr 0 512 T) zr zr zr, 1106)] _
  (repeat (first | refine And.intro (by omega) ?_ | refine And.intro ⟨by omega, by omega⟩ ?_))
  refine And.intro trivial (Spec.mono (toTable_s _) ?_)
  rintro r m ⟨rfl, rfl⟩
  change opsVC _ _ _ _ _ _ [some (hopV p n U T Z C S, 1106), some (hopV 0 0 zr zr zr zr zr, 1106), some (hopV p n (updR zr 0 8 U) (updR zr 0 512 T) (updR zr 0 8 Z) zr zr, 1106)] _
  (repeat (first | refine And.intro (by omega) ?_ | refine And.intro ⟨by omega, by omega⟩ ?_))
  refine And.intro trivial (Spec.mono (toLinear_s _) ?_)
  rintro r m ⟨rfl, rfl⟩
  change opsVC _ _ _ _ _ _ [some (hopV p n U T Z C S, 1106), some (hopV 0 0 zr zr zr zr zr, 1106), some (hopV p n (updR zr 0 8 U) (updR zr 0 512 T) (updR zr 0 8 Z) (updR zr 0 512 C) zr, 1106)] _
  (repeat (first | refine And.intro (by omega) ?_ | refine And.intro ⟨by omega, by omega⟩ ?_))
  exact hopE p n (fun j hj => upd0 hj) (fun j hj => upd0 hj) (fun j hj => upd0 hj) (fun j hj => upd0 hj) (fun j hj => upd0 hj)

section
variable (p n : Int) (U T Z C S : Nat → Int) (hU : isU8 8 U) (hT : isU8 512 T) (hZ : isU8 8 Z) (hC : isU8 512 C) (hS : isU8 64 S)
include hU hT hZ hC hS

/-! ### IsHopf, AxiomThatFails -/
def failV (p n : Int) (U T Z C S : Nat → Int) : SV := .tcons (.int .i64 (if hshB p n U T Z C S = true then (failN p n.toNat U T Z C S : Int) else 0)) (.tcons (.int .i64 (if hshB p n U T Z C S = true then 0 else 1)) .tnil)

end
end Go.Proofs.Ytjanlnngeklhoaa

/- Functions of a Hopf algebra and a vector, on both sides, and the laws. -/
set_option linter.unusedVariables false
set_option linter.unusedSimpArgs false
set_option maxRecDepth 100000
set_option maxHeartbeats 1000000
namespace Go.Proofs.Ytjanlnngeklhoaa
open M

section
variable (p n : Int) (U T Z C S : Nat → Int) (hU : isU8 8 U) (hT : isU8 512 T) (hZ : isU8 8 Z) (hC : isU8 512 C) (hS : isU8 64 S)
include hU hT hZ hC hS


/-! ### functions of a Hopf algebra and a vector -/
theorem isHopfWith_s (len : Nat) (V : Nat → Int) (hlen : len ≤ 1000) (hV : isU8 (len * 8) V) :
    Spec Try.prog 22 [hopV p n U T Z C S, .sl 0 0 len len] [some (.ints .u8 (len * 8) V, len * 8)] (fun r m => r = .bool (hopB p n U T Z C S && vectorsB p n len V) ∧ m = [some (.ints .u8 (len * 8) V, len * 8)]) := by
  refine Spec.cut (Nat.le_refl _) (by simp [SV.ids]) (fun id u c hb => by cases id <;> cases hb; simp [SV.ids]) (Spec.of_vc tabOK tabEq Try.func22 rfl (by kernel_rfl) rfl rfl ?_)
  refine And.intro trivial (Spec.mono (isHopf_s p n U T Z C S hU hT hZ hC hS) ?_)
  rintro r m ⟨rfl, rfl⟩
  refine ifVC_split (fun ha => ?_) (fun ha => ?_)
  · have hfn : fieldB p n = true := by
      unfold hopB hshB at ha
      simp only [Bool.and_eq_true] at ha
      exact shape_field ha.1.1
    refine And.intro (And.intro rfl trivial) (Spec.mono (areVectors_s p n len V hlen hfn hV) ?_)
    rintro r m ⟨rfl, rfl⟩
    exact And.intro (boolEq (by simp [ha])) (And.intro (And.intro (rowEq fun _ _ => rfl) rfl) trivial)
  · exact And.intro (boolEq (by simp [ha])) (And.intro (And.intro (rowEq fun _ _ => rfl) rfl) trivial)

theorem l03Code_s (len : Nat) (V : Nat → Int) (hlen : len ≤ 1000) (hV : isU8 (len * 8) V) :
    Spec Try.prog 18 [hopV p n U T Z C S, .sl 0 0 len len] [some (.ints .u8 (len * 8) V, len * 8)] (fun r m => r = .int .i64 (if (hopB p n U T Z C S && vectorsB p n len V) = true then 0 else 1) ∧ m = [some (.ints .u8 (len * 8) V, len * 8)]) := by
  refine Spec.cut (Nat.le_refl _) (by simp [SV.ids]) (fun id u c hb => by cases id <;> cases hb; simp [SV.ids]) (Spec.of_vc tabOK tabEq Try.func18 rfl (by kernel_rfl) rfl rfl ?_)
  refine And.intro trivial (Spec.mono (l03Is_s p n U T Z C S hU hT hZ hC hS) ?_)
  rintro r m ⟨rfl, rfl⟩
  refine ifVC_split (fun ha => ?_) (fun ha => ?_)
  · exact And.intro (slotI (by simp at ha; simp [ha])) (And.intro (And.intro (rowEq fun _ _ => rfl) rfl) trivial)
  have ha : hopB p n U T Z C S = true := by simpa using ha
  refine LoopVC.of (fun i : Nat => i ≤ len ∧ ∀ j, j < i → entriesB p n (partF V 8 j) = true) (fun i => [(1, .sl 0 0 len len), (2, .ptr 1 [] 0 0), (5, .int .i64 i)]) (fun _ => [some (.ints .u8 (len * 8) V, len * 8), some (hopV p n U T Z C S, 1106)]) (fun i => len - i) 0 ⟨by omega, fun j hj => by omega⟩ ?_ ?_ ?_
  · exact And.intro rfl (And.intro rfl (And.intro rfl trivial))
  · exact And.intro (And.intro (rowEq fun _ _ => rfl) rfl) (And.intro (And.intro (hopR p n U T Z C S) rfl) trivial)
  · rintro i ⟨hi, hall⟩
    refine ifVC_split (fun h => ?_) (fun h => ?_)
    · have hlt := of_decide_eq_true h
      have hidx : (i : Int).toNat = i := by omega
      refine Exists.intro 9 (And.intro (by kernel_rfl) ?_)
      refine And.intro ⟨by omega, by omega⟩ ?_
      refine And.intro (by omega) ?_
      have he : entriesB p n (fun j => V (j + ((i : Int).toNat * 8 + 0))) = entriesB p n (partF V 8 i) := by rw [hidx]; rfl
      refine Exists.intro (.bool (entriesB p n (partF V 8 i))) (And.intro (And.intro rfl (And.intro rfl (Spec.mono (l01Vector_s p n _ (fun j hj => hV _ (by omega))) fun r m h => by rw [← he]; exact h.1))) ?_)
      refine ifVC_split (fun hv => ?_) (fun hv => ?_)
      · have hv : entriesB p n (partF V 8 i) = false := by simpa using hv
        exact And.intro (slotI (by simp [vectorsB_no (p := p) (n := n) (V := V) (len := len) (i := i) (by omega) hv])) (And.intro (And.intro (rowEq fun _ _ => rfl) rfl) trivial)
      · have hv : entriesB p n (partF V 8 i) = true := by simpa using hv
        refine Exists.intro (i + 1) (And.intro ⟨by omega, fun j hj => ?_⟩ (And.intro (by omega) (And.intro ?_ ?_)))
        · by_cases hji : j = i
          · subst hji; exact hv
          · exact hall j (by omega)
        · exact And.intro rfl (And.intro rfl (And.intro (slotI (wrapS (by omega))) trivial))
        · exact And.intro (And.intro (rowEq fun _ _ => rfl) rfl) (And.intro (And.intro (hopR p n U T Z C S) rfl) trivial)
    · have hge := of_decide_eq_false h
      exact And.intro (slotI (by simp [ha, vectorsB_yes (p := p) (n := n) (V := V) (len := len) fun j hj => hall j (by omega)])) (And.intro (And.intro (rowEq fun _ _ => rfl) rfl) trivial)
end

/-- a Hopf algebra and a vector for it -/
def hopOne (p n : Int) (U T Z C S v : Nat → Int) : Bool := hopB p n U T Z C S && entriesB p n v
theorem hopOne_bad {p n : Int} {U T Z C S z v : Nat → Int} (h : (!(hopB p n U T Z C S && vectorsB p n 1 (oneV z v))) = true) : hopOne p n U T Z C S v = false := by
  rw [one_vectors] at h; unfold hopOne; simpa only [Bool.not_eq_true'] using h
theorem hopOne_ok {p n : Int} {U T Z C S z v : Nat → Int} (h : (!(hopB p n U T Z C S && vectorsB p n 1 (oneV z v))) = false) : hopOne p n U T Z C S v = true := by
  rw [one_vectors] at h; simpa [hopOne] using h
theorem hopOne_bad2 {p n : Int} {U T Z C S v : Nat → Int} (h : ((if (hopB p n U T Z C S && entriesB p n v) = true then (0 : Int) else 1) != 0) = true) : hopOne p n U T Z C S v = false := by
  cases hm : hopOne p n U T Z C S v with
  | false => rfl
  | true => unfold hopOne at hm; rw [if_pos hm] at h; simp at h
theorem hopOne_ok2 {p n : Int} {U T Z C S v : Nat → Int} (h : ((if (hopB p n U T Z C S && entriesB p n v) = true then (0 : Int) else 1) != 0) = false) : hopOne p n U T Z C S v = true := by
  cases hm : hopOne p n U T Z C S v with
  | true => rfl
  | false => unfold hopOne at hm; rw [if_neg (by rw [hm]; simp)] at h; simp at h
theorem hopOne_code {p n : Int} {U T Z C S v : Nat → Int} (h : hopOne p n U T Z C S v = false) : (if (hopB p n U T Z C S && entriesB p n v) = true then (0 : Int) else 1) = 1 := by
  unfold hopOne at h; simp [h]
theorem hopB_valid {p n : Int} {U T Z C S : Nat → Int} (hU : isU8 8 U) (hT : isU8 512 T) (hZ : isU8 8 Z) (hC : isU8 512 C) (hS : isU8 64 S) (h : hopB p n U T Z C S = true) : ∃ k : Nat, n = k ∧ HV p k U T Z C S := by
  unfold hopB at h
  simp only [Bool.and_eq_true] at h
  exact hsh_valid hU hT hZ hC hS h.1
theorem hopOne_spec {p n : Int} {U T Z C S v : Nat → Int} (hU : isU8 8 U) (hT : isU8 512 T) (hZ : isU8 8 Z) (hC : isU8 512 C) (hS : isU8 64 S) (h : hopOne p n U T Z C S v = true) : ∃ k : Nat, n = k ∧ HV p k U T Z C S ∧ ∀ i, k ≤ i → i < 8 → v i = 0 := by
  unfold hopOne at h
  simp only [Bool.and_eq_true] at h
  obtain ⟨k, rfl, hV⟩ := hopB_valid hU hT hZ hC hS h.1
  exact ⟨k, rfl, hV, fun i h1 h2 => (entries_get h.2 h2).2 (by omega)⟩

section
variable (p n : Int) (U T Z C S : Nat → Int) (hU : isU8 8 U) (hT : isU8 512 T) (hZ : isU8 8 Z) (hC : isU8 512 C) (hS : isU8 64 S) (v : Nat → Int) (hv : isU8 8 v)
include hU hT hZ hC hS hv

/-! ### CounitOf -/
def hcounitV (p n : Int) (U T Z C S v : Nat → Int) : SV := .tcons (.int .i64 (if hopOne p n U T Z C S v = true then cnt p Z v else 0)) (.tcons (.int .i64 (if hopOne p n U T Z C S v = true then 0 else 1)) .tnil)
/-! ### CoproductOf -/
def hcoprodV (p n : Int) (U T Z C S v : Nat → Int) : SV := .tcons (.ints .u8 64 fun q => if hopOne p n U T Z C S v = true then leftT p C v q else 0) (.tcons (.int .i64 (if hopOne p n U T Z C S v = true then 0 else 1)) .tnil)
/-! ### AntipodeOf -/
def hantV (p n : Int) (U T Z C S v : Nat → Int) : SV := .tcons (.ints .u8 8 fun j => if hopOne p n U T Z C S v = true then linS S v 8 j % p else 0) (.tcons (.int .i64 (if hopOne p n U T Z C S v = true then 0 else 1)) .tnil)
end
end Go.Proofs.Ytjanlnngeklhoaa

/- Dual Hopf algebras, on both sides, and the law. -/
set_option linter.unusedVariables false
set_option linter.unusedSimpArgs false
set_option maxRecDepth 100000
set_option maxHeartbeats 2000000
namespace Go.Proofs.Ytjanlnngeklhoaa
open M

/-- columns as rows -/
def flipL (S : Nat → Int) : Nat → Int := fun q => S (q % 8 * 8 + q / 8)

theorem flipLinear_s (S : Nat → Int) : Spec Try.prog 50 [.ints .u8 64 S] [] (Ret (.ints .u8 64 (flipL S))) := by
  refine Spec.ret rfl (Spec.of_vc tabOK tabEq Try.func50 rfl (by kernel_rfl) rfl rfl ?_)
  (repeat (first | refine And.intro (by omega) ?_ | refine And.intro ⟨by omega, by omega⟩ ?_))
  refine LoopVC.of (fun j : Nat => j ≤ 8) (fun j => [(2, .ptr 1 [] 0 0), (3, .ptr 2 [] 0 0), (8, .ints .u8 64 S), (9, .int .i64 j)])
    (fun j => [none, some (.ints .u8 64 fun _ => 0, 64), some (.ints .u8 64 fun q => if q % 8 < j then flipL S q else 0, 64)]) (fun j => 8 - j) 0 (by omega) ?_ ?_ ?_
  · exact And.intro rfl (And.intro rfl (And.intro (rowEq fun _ _ => rfl) (And.intro rfl trivial)))
  · exact And.intro (And.intro (rowEq fun _ _ => rfl) rfl) (And.intro (And.intro (rowEq fun q _ => by simp) rfl) trivial)
  · intro j hj
    refine ifVC_split (fun h => ?_) (fun h => ?_)
    · have hltj := of_decide_eq_true h
      have hjdx : (j : Int).toNat = j := by omega
      (repeat (first | refine And.intro (by omega) ?_ | refine And.intro ⟨by omega, by omega⟩ ?_))
      refine LoopVC.of (fun k : Nat => k ≤ 8) (fun k => [(2, .ptr 1 [] 0 0), (3, .ptr 2 [] 0 0), (4, .int .i64 j), (8, .ints .u8 64 S), (9, .int .i64 j), (13, .ints .u8 8 fun q => S (q + j * 8)), (14, .int .i64 k)])
        (fun k => [none, some (.ints .u8 64 fun _ => 0, 64), some (.ints .u8 64 fun q => if q % 8 < j ∨ (q % 8 = j ∧ q / 8 < k) then flipL S q else 0, 64), none]) (fun k => 8 - k) 0 (by omega) ?_ ?_ ?_
      · exact And.intro rfl (And.intro rfl (And.intro rfl (And.intro (rowEq fun _ _ => rfl) (And.intro rfl (And.intro (rowEq fun q hq => by show updR _ 0 8 _ (q + 0) = _; simp [updR, hq]) (And.intro rfl trivial))))))
      · exact And.intro (And.intro (rowEq fun _ _ => rfl) rfl) (And.intro (And.intro (rowEq fun q _ => by simp) rfl) trivial)
      · intro k hk
        refine ifVC_split (fun h => ?_) (fun h => ?_)
        · have hltk := of_decide_eq_true h
          have hkdx : (k : Int).toNat = k := by omega
          (repeat (first | refine And.intro (by omega) ?_ | refine And.intro ⟨by omega, by omega⟩ ?_))
          refine Exists.intro (k + 1) (And.intro (by omega) (And.intro (by omega) (And.intro (And.intro rfl (And.intro rfl (And.intro rfl (And.intro (rowEq fun _ _ => rfl) (And.intro rfl (And.intro (rowEq fun _ _ => rfl) (And.intro (slotI (wrapS (by omega))) trivial))))))) ?_)))
          refine And.intro (And.intro (rowEq fun _ _ => rfl) rfl) (And.intro (And.intro (rowEq fun q hq => ?_) rfl) trivial)
          show upd1 _ ((j : Int).toNat * 1 + ((k : Int).toNat * 8 + 0)) _ q = _
          unfold upd1
          rw [hjdx, hkdx]
          dsimp only
          by_cases h1 : q = j * 1 + (k * 8 + 0)
          · rw [if_pos h1, if_pos (by omega)]
            unfold flipL
            show S _ = S _
            congr 1
            omega
          · rw [if_neg h1]
            by_cases h2 : q % 8 < j ∨ (q % 8 = j ∧ q / 8 < k)
            · rw [if_pos h2, if_pos (by omega)]
            · rw [if_neg h2, if_neg (by omega)]
        · have hge := of_decide_eq_false h
          obtain rfl : k = 8 := by omega
          refine Exists.intro (j + 1) (And.intro (by omega) (And.intro (by omega) (And.intro (And.intro rfl (And.intro rfl (And.intro (rowEq fun _ _ => rfl) (And.intro (slotI (wrapS (by omega))) trivial)))) ?_)))
          refine And.intro (And.intro (rowEq fun _ _ => rfl) rfl) (And.intro (And.intro (rowEq fun q hq => ?_) rfl) trivial)
          by_cases h2 : q % 8 < j ∨ (q % 8 = j ∧ q / 8 < 8)
          · rw [if_pos h2, if_pos (by omega)]
          · rw [if_neg h2, if_neg (by omega)]
    · have hge := of_decide_eq_false h
      obtain rfl : j = 8 := by omega
      (repeat (first | refine And.intro (by omega) ?_ | refine And.intro ⟨by omega, by omega⟩ ?_))
      refine rowEq fun q hq => ?_
      show updR _ 0 64 _ q = _
      simp [updR, hq]
      omega

/-- what is laid after so many rounds of three loops, one in the other -/
abbrev in3 (n i j k a b c : Nat) : Prop := (a < i ∧ b < n ∧ c < n) ∨ (a = i ∧ ((b < j ∧ c < n) ∨ (b = j ∧ c < k)))
def dM (C : Nat → Int) (n i j k : Nat) : Nat → Int := fun q => if in3 n i j k (q % 8) (q / 64) (q / 8 % 8) then dualF C q else 0
def dC (T : Nat → Int) (n i j k : Nat) : Nat → Int := fun q => if in3 n i j k (q / 64) (q / 8 % 8) (q % 8) then codF T q else 0
def dA (S : Nat → Int) (n i j : Nat) : Nat → Int := fun q => if (q / 8 < i ∧ q % 8 < n) ∨ (q / 8 = i ∧ q % 8 < j) then flipL S q else 0
/-- a Hopf table, or zeros -/
def orHop (b : Bool) (p n : Int) (U T Z C S : Nat → Int) : SV :=
  hopV (if b = true then p else 0) (if b = true then n else 0) (fun q => if b = true then U q else 0) (fun q => if b = true then T q else 0) (fun q => if b = true then Z q else 0) (fun q => if b = true then C q else 0) (fun q => if b = true then S q else 0)
/-- the same and a code -/
def orH (b : Bool) (p n : Int) (U T Z C S : Nat → Int) : SV := .tcons (orHop b p n U T Z C S) (.tcons (.int .i64 (if b = true then 0 else 1)) .tnil)
section
variable (p n : Int) (U T Z C S : Nat → Int) (hU : isU8 8 U) (hT : isU8 512 T) (hZ : isU8 8 Z) (hC : isU8 512 C) (hS : isU8 64 S)
include hU hT hZ hC hS

end
end Go.Proofs.Ytjanlnngeklhoaa

/- An argument that is a Hopf table: its numbers. -/
set_option linter.unusedVariables false
set_option linter.unusedSimpArgs false
namespace Go.Proofs.Ytjanlnngeklhoaa
variable {P : Program} {H : Type} {enc : TypeId × Value → H}

theorem open_hopG {w : World} {r : Reach} {b0 b : Nat} {sp : Nat → Bool} {hd : Bool} {t : TypeId} {f0 f1 f2 f3 f4 f5 f6 : Field} {d2 d3 d4 d5 d6 : Nat} (hs : P.underlying t = some (.struct #[f0, f1, f2, f3, f4, f5, f6])) (hsz : (P.info? t).map (·.size) = some 1106)
    (h0 : P.underlying f0.type = some (.int .i64)) (z0 : (P.info? f0.type).map (·.size) = some 1) (o0 : f0.offset = 0) (h1 : P.underlying f1.type = some (.int .i64)) (z1 : (P.info? f1.type).map (·.size) = some 1) (o1 : f1.offset = 1)
    (h2 : RowT P f2.type .u8 8 d2) (z2 : (P.info? f2.type).map (·.size) = some 8) (o2 : f2.offset = 2) (h3 : RowT P f3.type .u8 512 d3) (z3 : (P.info? f3.type).map (·.size) = some 512) (o3 : f3.offset = 10)
    (h4 : RowT P f4.type .u8 8 d4) (z4 : (P.info? f4.type).map (·.size) = some 8) (o4 : f4.offset = 522) (h5 : RowT P f5.type .u8 512 d5) (z5 : (P.info? f5.type).map (·.size) = some 512) (o5 : f5.offset = 530)
    (h6 : RowT P f6.type .u8 64 d6) (z6 : (P.info? f6.type).map (·.size) = some 64) (o6 : f6.offset = 1042)
    {v : Value} {x : DataW H} {ps : List MemPlace} (hval : Value.okWide P w r b0 t v) (ht : DataW.Trod enc P w b sp hd t v x ps) :
    ∃ (p n : Int) (U T Z C S : Nat → Int), (∀ μ, v = toVal μ (hopV p n U T Z C S)) ∧ isU8 8 U ∧ isU8 512 T ∧ isU8 8 Z ∧ isU8 512 C ∧ isU8 64 S ∧ ps = [] := by
  unfold Value.okWide at hval
  rw [hs] at hval
  obtain ⟨cs, rfl, _⟩ := hval
  obtain ⟨fuel, hf⟩ := ht
  obtain ⟨xs, n, _, hx, hl, hlen, hfs⟩ := DataW.trod_struct hs hf
  have hl' : cs.toList.length = 1106 := by rw [cellsOf_of hsz] at hl; exact hl
  match xs, hlen with
  | [y0, y1, y2, y3, y4, y5, y6], _ =>
    have g0 := hfs 0 f0 rfl
    have g1 := hfs 1 f1 rfl
    have g2 := hfs 2 f2 rfl
    have g3 := hfs 3 f3 rfl
    have g4 := hfs 4 f4 rfl
    have g5 := hfs 5 f5 rfl
    have g6 := hfs 6 f6 rfl
    rw [cellsOf_of z0, o0] at g0
    rw [cellsOf_of z1, o1] at g1
    rw [cellsOf_of z2, o2] at g2
    rw [cellsOf_of z3, o3] at g3
    rw [cellsOf_of z4, o4] at g4
    rw [cellsOf_of z5, o5] at g5
    rw [cellsOf_of z6, o6] at g6
    obtain ⟨p, e0, w0, q0⟩ := trod_int_cell h0 g0
    obtain ⟨m, e1, w1, q1⟩ := trod_int_cell h1 g1
    obtain ⟨l2, c2, q2⟩ := open_row h2 _ _ _ z2 g2
    obtain ⟨l3, c3, q3⟩ := open_row h3 _ _ _ z3 g3
    obtain ⟨l4, c4, q4⟩ := open_row h4 _ _ _ z4 g4
    obtain ⟨l5, c5, q5⟩ := open_row h5 _ _ _ z5 g5
    obtain ⟨l6, c6, q6⟩ := open_row h6 _ _ _ z6 g6
    obtain ⟨e2, w2⟩ := row_cells (μ := fun _ => 0) l2 c2
    obtain ⟨e3, w3⟩ := row_cells (μ := fun _ => 0) l3 c3
    obtain ⟨e4, w4⟩ := row_cells (μ := fun _ => 0) l4 c4
    obtain ⟨e5, w5⟩ := row_cells (μ := fun _ => 0) l5 c5
    obtain ⟨e6, w6⟩ := row_cells (μ := fun _ => 0) l6 c6
    refine ⟨p, m, _, _, _, _, _, fun μ => ?_, fun j hj => u8_bounds (w2 j hj), fun j hj => u8_bounds (w3 j hj), fun j hj => u8_bounds (w4 j hj), fun j hj => u8_bounds (w5 j hj), fun j hj => u8_bounds (w6 j hj), ?_⟩
    · have hcs : cs.toList = (cs.toList.drop 0).take 1 ++ ((cs.toList.drop 1).take 1 ++ ((cs.toList.drop 2).take 8 ++ ((cs.toList.drop 10).take 512 ++ ((cs.toList.drop 522).take 8 ++ ((cs.toList.drop 530).take 512 ++ (cs.toList.drop 1042).take 64))))) := by
        have a6 : (cs.toList.drop 1042).take 64 = cs.toList.drop 1042 := List.take_of_length_le (by simp [hl'])
        rw [a6]
        have s1 := List.take_append_drop 1 cs.toList
        have s2 := List.take_append_drop 1 (cs.toList.drop 1)
        have s3 := List.take_append_drop 8 (cs.toList.drop 2)
        have s4 := List.take_append_drop 512 (cs.toList.drop 10)
        have s5 := List.take_append_drop 8 (cs.toList.drop 522)
        have s6 := List.take_append_drop 512 (cs.toList.drop 530)
        rw [List.drop_drop] at s2 s3 s4 s5 s6
        conv => lhs; rw [← s1, ← s2, ← s3, ← s4, ← s5, ← s6]
        rfl
      show Value.agg cs = Value.agg _
      congr 1
      apply Array.ext'
      have e0' : (cs.toList.drop 0).take 1 = [.int .i64 p] := e0
      have e1' : (cs.toList.drop 1).take 1 = [.int .i64 m] := e1
      have e2' : (cs.toList.drop 2).take 8 = _ := e2
      have e3' : (cs.toList.drop 10).take 512 = _ := e3
      have e4' : (cs.toList.drop 522).take 8 = _ := e4
      have e5' : (cs.toList.drop 530).take 512 = _ := e5
      have e6' : (cs.toList.drop 1042).take 64 = _ := e6
      rw [hcs, e0', e1', e2', e3', e4', e5', e6']
      simp [hopV, flat, scal]
    · have : ps = [y0, y1, y2, y3, y4, y5, y6].flatMap (·.2) := congrArg Prod.snd hx
      rw [this]
      simp [q0, q1, q2, q3, q4, q5, q6]
end Go.Proofs.Ytjanlnngeklhoaa

/- Adjoint actions, the program's and the model's. -/
set_option linter.unusedVariables false
set_option linter.unusedSimpArgs false
set_option maxRecDepth 100000
set_option maxHeartbeats 4000000
namespace Go.Proofs.Ytjanlnngeklhoaa
open M

/-! ### what is added -/
def adjA (S : Nat → Int) (right : Bool) (j : Nat) : Nat → Int := if right = true then partF S 8 j else unitV j
def adjZ (p : Int) (F S : Nat → Int) (right : Bool) (j : Nat) : Nat → Int := if right = true then partF F 8 j else fun y => linS S (partF F 8 j) 8 y % p
def adjT (p : Int) (T F S b : Nat → Int) (right : Bool) (j : Nat) : Nat → Int := prodF p T (prodF p T (adjA S right j) b) (adjZ p F S right j)
def adjN (p : Int) (T F S b : Nat → Int) (right : Bool) (j : Nat) : Nat → Int := fun m => sumN j (fun i => adjT p T F S b right i m) % p
theorem adjN_step (p : Int) (T F S b : Nat → Int) (right : Bool) (j m : Nat) : (adjN p T F S b right j m + 1 * adjT p T F S b right j m) % p = adjN p T F S b right (j + 1) m := by
  unfold adjN
  show _ = (sumN j _ + _) % p
  rw [Int.one_mul, Int.emod_add_emod]
theorem prodF_congrA {p : Int} {T v v' w w' : Nat → Int} (hv : ∀ j, j < 8 → v j = v' j) (hw : ∀ j, j < 8 → w j = w' j) (m : Nat) : prodF p T v w m = prodF p T v' w' m := by
  unfold prodF
  refine congrArg (· % p) (linS_congr 8 fun i hi => ?_)
  rw [hw i hi]
  refine congrArg (w' i * ·) ?_
  unfold leftT rightF
  exact congrArg (· % p) (linS_congr 8 fun k hk => by rw [hv k hk])
theorem adjoint_s (p : Int) (n : Nat) (U T Z C S a b : Nat → Int) (right : Bool) (hV : HV p n U T Z C S) (ha : isU8 8 a) (hb : isU8 8 b) :
    Spec Try.prog 23 [hopV p n U T Z C S, .ints .u8 8 a, .ints .u8 8 b, .bool right] [] (Ret (.ints .u8 8 (adjN p T (leftT p C a) S b right n))) := by
  have hn := hV.a.hn
  have hn1 := hV.n1
  have hp := hV.a.hp
  have hT := hV.hT
  have hS := hV.hS
  have hF : isU8 64 (leftT p C a) := fun q _ => modB hp
  refine Spec.ret rfl (Spec.of_vc tabOK tabEq Try.func23 rfl (by kernel_rfl) rfl rfl ?_)
  refine vc_gen (q := 2) 9 [0, 2, 4, 5, 8] [1, 3, 6, 7] (by kernel_rfl) (by kernel_rfl) (by kernel_rfl) ?_
  refine readsAt_step rfl (by rfl) ?_
  refine readVC_loadF (v := hopV p n U T Z C S) (z := hopV p n U T Z C S) rfl rfl rfl rfl (fun _ h => h) ?_
  refine readsAt_step rfl (by rfl) ?_
  refine readVC_loadR (l := 8) rfl rfl rfl (by omega) ?_
  refine readsAt_step rfl (by rfl) ?_
  refine readVC_fa rfl rfl rfl ?_
  refine readsAt_step rfl (by rfl) ?_
  refine readVC_loadF (v := .int .i64 n) (z := .int .i64 n) rfl rfl rfl rfl (fun _ h => h) ?_
  refine readsAt_step rfl (by rfl) ?_
  refine readVC_mv rfl ?_
  refine readsAt_nil ?_
  refine restVC_val (i := 1) rfl (by rfl) rfl rfl rfl rfl rfl rfl (fun _ => rfl) (fun _ => rfl) (coalgebraOf_s p n U T Z C S) ?_
  refine restVC_val (i := 3) rfl (by rfl) rfl rfl rfl rfl rfl rfl (fun _ => rfl) (fun _ => rfl) (coproduct_s p n Z C _ hp hV.hC (fun j hj => ha _ (by omega))) ?_
  refine restVC_call (i := 6) rfl (by rfl) rfl rfl rfl rfl rfl ?_
  refine callVC_new rfl (fun _ => rfl) (Spec.mono (rowsOf_s (leftT p C a) n ⟨hn1, hn⟩) ?_)
  rintro _ _ ⟨rfl, rfl⟩
  refine ⟨n, n, .ints .u8 64 (leftT p C a), 64, rfl, rfl, fun _ => rfl, (Plus.snoc _ _ _ _).preM, ?_⟩
  refine restVC_len (i := 7) rfl (by rfl) rfl rfl rfl rfl rfl ?_
  refine restVC_nil ?_
  (repeat (first | (with_reducible refine vc_exit ?_) | (with_reducible refine vc_ret ?_) | (with_reducible refine vc_skip ?_) | (with_reducible refine thenQ_x ?_) | (with_reducible refine thenQ_r ?_) | (with_reducible refine thenQ_n ?_) | (with_reducible refine blockQ_x rfl ?_) | (with_reducible refine blockQ_y rfl ?_) | (with_reducible refine blockQ_n ?_) | (with_reducible refine blockQ_r ?_) | (with_reducible refine vc_seq ?_) | (with_reducible refine vc_region ?_) | (with_reducible refine vc_block ?_) | (with_reducible refine vc_scope ?_) | (with_reducible refine opsVC_nil ?_)))
  change vc _ _ _ _ _ [some (hopV p n U T Z C S, 1106), some (.ints .u8 8 a, 8), some (.ints .u8 8 b, 8), some (.ints .u8 8 fun _ => 0, 8), some (.ints .u8 8 fun _ => 0, 8), some (.ints .u8 64 (leftT p C a), 64)] _
  generalize leftT p C a = F at hF
  refine LoopVC.of (fun j : Nat => j ≤ n) (fun j => [(3, .bool right), (4, .ptr 0 [] 0 0), (6, .ptr 2 [] 0 0), (8, .ptr 3 [] 0 0), (9, .ptr 4 [] 0 0), (21, .sl 5 0 n n), (22, .int .i64 n), (23, .int .i64 j)])
    (fun j => [some (hopV p n U T Z C S, 1106), some (.ints .u8 8 a, 8), some (.ints .u8 8 b, 8), some (.ints .u8 8 fun _ => 0, 8), some (.ints .u8 8 (adjN p T F S b right j), 8), some (.ints .u8 64 F, 64)]) (fun j => n - j) 0 (by omega) ?_ ?_ ?_
  · exact (And.intro rfl (And.intro rfl (And.intro rfl (And.intro rfl (And.intro rfl (And.intro rfl (And.intro rfl (And.intro rfl (trivial)))))))))
  · exact And.intro (And.intro (hopR p n U T Z C S) rfl) (And.intro (And.intro (rowEq fun _ _ => rfl) rfl) (And.intro (And.intro (rowEq fun _ _ => rfl) rfl) (And.intro (And.intro (rowEq fun _ _ => rfl) rfl) (And.intro (And.intro (rowEq fun j _ => by simp [adjN, sumN]) rfl) (And.intro (And.intro (rowEq fun _ _ => rfl) rfl) trivial)))))
  · intro j hj
    refine ifVC_split (fun h => ?_) (fun h => ?_)
    · have hlt : j < n := by have := of_decide_eq_true h; omega
      have hidx : (j : Int).toNat = j := by omega
      (repeat (first | refine And.intro (by omega) ?_ | refine And.intro ⟨by omega, by omega⟩ ?_))
      have hrow : ∀ y, y < 8 → updR (fun _ => 0) 0 8 (fun q => F (q + ((j : Int).toNat * 8 + 0))) (y + 0) = partF F 8 j y := fun y hy => by
        rw [hidx]
        show updR _ 0 8 _ y = F (y + j * 8)
        simp [updR, hy]
      refine Exists.intro 11 (And.intro (by kernel_rfl) ?_)
      refine Exists.intro (.ints .u8 8 (unitV j)) (And.intro (And.intro rfl (And.intro rfl (Spec.mono (basisVector_s j ⟨by omega, by omega⟩) ?_))) ?_)
      · rintro r m ⟨rfl, _⟩
        rw [hidx]
      (repeat (first | refine And.intro (by omega) ?_ | refine And.intro ⟨by omega, by omega⟩ ?_))
      refine Exists.intro (.ints .u8 8 fun y => linS S (partF F 8 j) 8 y % p) (And.intro (And.intro rfl (And.intro rfl (Spec.mono (apply_s p _ _ hp (fun q hq => hS _ (by omega)) (fun q hq => by rw [hrow q hq]; exact hF _ (by omega))) ?_))) ?_)
      · rintro r m ⟨rfl, _⟩
        refine congrArg (SV.ints .u8 8) (funext fun y => congrArg (· % p) (linS_congr 8 fun i hi => ?_))
        rw [hrow i hi]
        rfl
      (repeat (first | refine And.intro (by omega) ?_ | refine And.intro ⟨by omega, by omega⟩ ?_))
      have rest : ∀ (A W : Nat → Int), (∀ q, q < 8 → A q = adjA S right j q) → (∀ q, q < 8 → W q = adjZ p F S right j q) → ∀ q, q < 8 →
          updR (adjN p T F S b right j) 0 8 (addM p (fun i => adjN p T F S b right j (i + 0)) 1 fun i => updR (fun _ => 0) 0 8 (prodF p T (prodF p T (fun i => A (i + 0)) fun i => b (i + 0)) fun i => W (i + 0)) (i + 0)) q = adjN p T F S b right (j + 1) q := fun A W hA hW q hq => by
        have e : prodF p T (prodF p T (fun i => A (i + 0)) fun i => b (i + 0)) (fun i => W (i + 0)) q = adjT p T F S b right j q := by
          unfold adjT
          exact prodF_congrA (fun i _ => prodF_congrA (fun i hi => hA i hi) (fun _ _ => rfl) i) (fun i hi => hW i hi) q
        rw [← adjN_step, ← e]
        simp only [updR, addM, Nat.zero_le, true_and, Nat.zero_add, Nat.add_zero, hq, if_true, Nat.sub_zero]
      refine ifVC_split ?_ ?_
      rotate_left
      intro hr
      have hr : right = false := hr
      rotate_left
      intro hr
      have hr : right = true := hr
      refine vc_genB (q := 7) 7 6 [0, 1, 2, 3, 4] [5] (by kernel_rfl) (by omega) (by kernel_rfl) (by kernel_rfl) ?_
      refine readsAt_step rfl (by rfl) ?_
      refine readVC_mv rfl ?_
      refine readsAt_step rfl (by rfl) ?_
      refine readVC_fa rfl rfl rfl ?_
      refine readsAt_step rfl (by rfl) ?_
      refine readVC_iaA rfl rfl rfl ⟨by omega, by omega⟩ ?_
      refine readsAt_step rfl (by rfl) ?_
      refine readVC_loadF (v := .ints .u8 8 fun q => S (q + ((j : Int).toNat * 8 + 0))) (z := .ints .u8 64 S) rfl rfl rfl rfl (fun _ h => ⟨by omega, h⟩) ?_
      refine readsAt_step rfl (by rfl) ?_
      refine readVC_loadR (l := 8) rfl rfl rfl (by omega) ?_
      refine readsAt_nil ?_
      refine restVC_stR (i := 5) rfl (by rfl) rfl rfl rfl rfl rfl (by omega) ?_
      refine restVC_nilB ?_
      refine And.intro (by omega) ?_
      all_goals
        refine Exists.intro 10 (And.intro (by kernel_rfl) ?_)
        refine Exists.intro (algV p n U T) (And.intro (And.intro rfl (And.intro rfl (Spec.mono (algebraOf_s p n U T Z C S) fun r m h => h.1))) ?_)
        refine Exists.intro (algV p n U T) (And.intro (And.intro rfl (And.intro rfl (Spec.mono (algebraOf_s p n U T Z C S) fun r m h => h.1))) ?_)
        (repeat (first | refine And.intro (by omega) ?_ | refine And.intro ⟨by omega, by omega⟩ ?_))
        refine Exists.intro _ (And.intro (And.intro rfl (And.intro rfl (Spec.mono (product_s p n U T _ _ hp (fun q hq => hT _ (by omega)) (fun q hq => ?_) (fun q hq => hb _ (by omega))) fun r m h => h.1))) ?_)
        · simp only [updR, Nat.zero_le, true_and, Nat.zero_add, Nat.add_zero, hq, if_true, Nat.sub_zero]
          first
            | exact hS _ (by omega)
            | exact unitV_u8 j 8 q hq
        (repeat (first | refine And.intro (by omega) ?_ | refine And.intro ⟨by omega, by omega⟩ ?_))
        refine Exists.intro _ (And.intro (And.intro rfl (And.intro rfl (Spec.mono (product_s p n U T _ _ hp (fun q hq => hT _ (by omega)) (fun q hq => modB hp) (fun q hq => ?_)) fun r m h => h.1))) ?_)
        · simp only [updR, Nat.zero_le, true_and, Nat.zero_add, Nat.add_zero, hq, if_true, Nat.sub_zero]
          first
            | exact hF _ (by omega)
            | exact modB hp
        (repeat (first | refine And.intro (by omega) ?_ | refine And.intro ⟨by omega, by omega⟩ ?_))
        refine And.intro trivial (Spec.mono (addMultiple_s p 1 _ _ hp (by omega) (fun q hq => modP hp) (fun q hq => ?_)) ?_)
        · simp only [updR, Nat.zero_le, true_and, Nat.zero_add, Nat.add_zero, hq, if_true, Nat.sub_zero]
          exact modB hp
        rintro r m ⟨rfl, rfl⟩
        (repeat (first | refine And.intro (by omega) ?_ | refine And.intro ⟨by omega, by omega⟩ ?_))
        refine Exists.intro (j + 1) (And.intro (by omega) (And.intro (by omega) (And.intro (And.intro rfl (And.intro rfl (And.intro rfl (And.intro rfl (And.intro rfl (And.intro rfl (And.intro rfl (And.intro (slotI (wrapS (by omega))) trivial)))))))) ?_)))
        refine And.intro (And.intro (hopR p n U T Z C S) rfl) (And.intro (And.intro (rowEq fun _ _ => rfl) rfl) (And.intro (And.intro (rowEq fun _ _ => rfl) rfl) (And.intro (And.intro (rowEq fun _ _ => rfl) rfl) (And.intro (And.intro (rowEq fun q hq => ?_) rfl) (And.intro (And.intro (rowEq fun _ _ => rfl) rfl) trivial)))))
        refine rest _ _ (fun q hq => ?_) (fun q hq => ?_) q hq
        · simp only [updR, Nat.zero_le, true_and, Nat.zero_add, Nat.add_zero, hq, if_true, Nat.sub_zero, adjA, hr, hidx, partF, Bool.false_eq_true, if_false]
        · simp only [updR, Nat.zero_le, true_and, Nat.zero_add, Nat.add_zero, hq, if_true, Nat.sub_zero, adjZ, hr, hidx, partF, Bool.false_eq_true, if_false]
    · have hge : j = n := by have := of_decide_eq_false h; omega
      subst hge
      (repeat (first | refine And.intro (by omega) ?_ | refine And.intro ⟨by omega, by omega⟩ ?_))
      refine rowEq fun q hq => ?_
      show updR _ 0 8 _ q = _
      simp [updR, hq]
end Go.Proofs.Ytjanlnngeklhoaa

/- Adjoint actions: the model, and AdjointAction on both sides. -/
set_option linter.unusedVariables false
set_option linter.unusedSimpArgs false
set_option linter.unusedSectionVars false
set_option maxRecDepth 100000
set_option maxHeartbeats 4000000
namespace Go.Proofs.Ytjanlnngeklhoaa
open M

/-! ### the model's sum -/
def adjX (S : Nat → Int) (right : Bool) (k : Nat) : Nat → Int := if right = true then unitV k else partF S 8 k
/-- what the model adds for j and k, before the multiple -/
def adjP (p : Int) (T S b : Nat → Int) (right : Bool) (j k : Nat) : Nat → Int := prodF p T (prodF p T (adjA S right j) b) (adjX S right k)
/-- what the model has when it is at k of j -/
def adjM (p : Int) (n : Nat) (T F S b : Nat → Int) (right : Bool) (j k : Nat) : Nat → Int := fun m => (sumN j (fun i => sumN n fun l => F (i * 8 + l) * adjP p T S b right i l m) + sumN k fun l => F (j * 8 + l) * adjP p T S b right j l m) % p
theorem adjM_step (p : Int) (n : Nat) (T F S b : Nat → Int) (right : Bool) (j k m : Nat) : (adjM p n T F S b right j k m + F (j * 8 + k) * adjP p T S b right j k m) % p = adjM p n T F S b right j (k + 1) m := by
  unfold adjM
  show _ = (_ + (sumN k _ + _)) % p
  rw [Int.emod_add_emod, Int.add_assoc]
theorem adjM_zero {p : Int} (n : Nat) (T F S b : Nat → Int) (right : Bool) (j k m : Nat) (h : F (j * 8 + k) = 0) : adjM p n T F S b right j k m = adjM p n T F S b right j (k + 1) m := by
  unfold adjM
  show _ = (_ + (sumN k _ + F (j * 8 + k) * adjP p T S b right j k m)) % p
  rw [h, Int.zero_mul, Int.add_zero]
theorem adjM_next (p : Int) (n : Nat) (T F S b : Nat → Int) (right : Bool) (j m : Nat) : adjM p n T F S b right j n m = adjM p n T F S b right (j + 1) 0 m := by
  unfold adjM
  show _ = ((sumN j _ + _) + 0) % p
  rw [Int.add_zero]
theorem prodFA_sum (p : Int) (T x w : Nat → Int) (m : Nat) : prodF p T x w m = sumN 8 (fun i => w i * leftT p T x (i * 8 + m)) % p := by
  unfold prodF; rw [linS_sum]
theorem prodFA_unit {p : Int} (T x : Nat → Int) {k m : Nat} (hk : k < 8) : prodF p T x (unitV k) m = leftT p T x (k * 8 + m) % p := by
  rw [prodFA_sum, sumN_unit, if_pos hk]
theorem sum_mods (p : Int) (f g : Nat → Int) (h : ∀ i, f i % p = g i % p) : ∀ k : Nat, sumN k f % p = sumN k g % p
  | 0 => rfl
  | k + 1 => by
    show (sumN k f + f k) % p = (sumN k g + g k) % p
    rw [Int.add_emod, sum_mods p f g h k, h k, ← Int.add_emod]
/-- for one row both sums are the same -/
theorem adj_row {p : Int} {n : Nat} (hn : n ≤ 8) (T F S b : Nat → Int) (right : Bool) {i : Nat} (hF0 : ∀ k, n ≤ k → k < 8 → F (i * 8 + k) = 0) (m : Nat) :
    sumN n (fun l => F (i * 8 + l) * adjP p T S b right i l m) % p = adjT p T F S b right i m % p := by
  have hcut : sumN n (fun l => F (i * 8 + l) * adjP p T S b right i l m) = sumN 8 (fun l => F (i * 8 + l) * adjP p T S b right i l m) := (sumN_cut 8 hn fun k h1 h2 => by rw [hF0 k h1 h2, Int.zero_mul]).symm
  rw [hcut]
  unfold adjP adjT adjX adjZ
  generalize prodF p T (adjA S right i) b = x
  cases right with
  | true =>
    simp only [if_true]
    rw [prodFA_sum, Int.emod_emod_of_dvd _ (Int.dvd_refl p)]
    have e : sumN 8 (fun l => F (i * 8 + l) * prodF p T x (unitV l) m) = sumN 8 (fun l => F (i * 8 + l) * (leftT p T x (l * 8 + m) % p)) := sumN_congr 8 fun l hl => by rw [prodFA_unit T x hl]
    rw [e, sumN_mod]
    refine congrArg (· % p) (sumN_congr 8 fun l hl => ?_)
    unfold partF
    rw [Nat.add_comm l (i * 8)]
  | false =>
    simp only [Bool.false_eq_true, if_false]
    rw [prodFA_sum p T x (fun y => linS S (partF F 8 i) 8 y % p), Int.emod_emod_of_dvd _ (Int.dvd_refl p)]
    have e1 : sumN 8 (fun l => F (i * 8 + l) * prodF p T x (partF S 8 l) m) % p = sumN 8 (fun l => F (i * 8 + l) * sumN 8 (fun y => partF S 8 l y * leftT p T x (y * 8 + m))) % p := by
      have : sumN 8 (fun l => F (i * 8 + l) * prodF p T x (partF S 8 l) m) = sumN 8 (fun l => F (i * 8 + l) * (sumN 8 (fun y => partF S 8 l y * leftT p T x (y * 8 + m)) % p)) := sumN_congr 8 fun l hl => by rw [prodFA_sum]
      rw [this, sumN_mod]
    have e2 : sumN 8 (fun y => linS S (partF F 8 i) 8 y % p * leftT p T x (y * 8 + m)) % p = sumN 8 (fun y => sumN 8 (fun l => F (i * 8 + l) * (partF S 8 l y * leftT p T x (y * 8 + m)))) % p := by
      refine sum_mods p _ _ (fun y => ?_) 8
      rw [Int.mul_emod, Int.emod_emod_of_dvd _ (Int.dvd_refl p), ← Int.mul_emod, linS_sum]
      refine congrArg (· % p) ?_
      rw [Int.mul_comm, sumN_mul]
      refine sumN_congr 8 fun l hl => ?_
      unfold partF
      rw [show l + i * 8 = i * 8 + l by omega, show y + l * 8 = l * 8 + y by omega]
      grind
    rw [e1, e2, sumN_swap]
    refine congrArg (· % p) (sumN_congr 8 fun l hl => ?_)
    rw [sumN_mul]
theorem adj_same {p : Int} {n : Nat} (hn : n ≤ 8) (T F S b : Nat → Int) (right : Bool) (hF0 : ∀ i k, i < n → n ≤ k → k < 8 → F (i * 8 + k) = 0) (m : Nat) : ∀ j, j ≤ n → adjM p n T F S b right j 0 m = adjN p T F S b right j m
  | 0, _ => by unfold adjM adjN; rfl
  | j + 1, hj => by
    have ih := adj_same (p := p) hn T F S b right hF0 m j (by omega)
    rw [← adjM_next, ← adjN_step, ← ih]
    unfold adjM
    show (sumN j _ + sumN n _) % p = ((sumN j _ + 0) % p + 1 * _) % p
    rw [Int.emod_add_emod, Int.one_mul, Int.add_zero, Int.add_emod, adj_row hn T F S b right (fun k h1 h2 => hF0 j k (by omega) h1 h2) m, ← Int.add_emod]

theorem l07Adjoint_s (p : Int) (n : Nat) (U T Z C S a b : Nat → Int) (right : Bool) (hV : HV p n U T Z C S) (ha : isU8 8 a) (hb : isU8 8 b) (haz : ∀ i, n ≤ i → i < 8 → a i = 0) (hbz : ∀ i, n ≤ i → i < 8 → b i = 0) :
    Spec Try.prog 19 [hopV p n U T Z C S, .ints .u8 8 a, .ints .u8 8 b, .bool right] [] (Ret (.ints .u8 8 (adjN p T (leftT p C a) S b right n))) := by
  have hn := hV.a.hn
  have hp := hV.a.hp
  have hT := hV.hT
  have hS := hV.hS
  have hF : ∀ q, q < 64 → 0 ≤ leftT p C a q ∧ leftT p C a q < p := fun q _ => modP hp
  have hF0 : ∀ i k, i < n → n ≤ k → k < 8 → leftT p C a (i * 8 + k) = 0 := fun i k hi h1 h2 => by
    rw [cop_left hV.c haz (by omega), if_pos (by omega)]
    unfold cop
    rw [sumN_none n fun c hc => by rw [co_zero hV.c (by omega) (by omega) (by omega) (.inr (.inr (by omega)))]; simp, Int.zero_emod]
  refine Spec.ret rfl (Spec.of_vc tabOK tabEq Try.func19 rfl (by kernel_rfl) rfl rfl ?_)
  refine Exists.intro 11 (And.intro (by kernel_rfl) ?_)
  (repeat (first | refine And.intro (by omega) ?_ | refine And.intro ⟨by omega, by omega⟩ ?_))
  refine Exists.intro (.ints .u8 64 (leftT p C a)) (And.intro (And.intro rfl (And.intro rfl (Spec.mono (l03Coproduct_s p n U T Z C S _ hV.c hV.hC (fun j hj => ha _ (by omega)) haz) fun r m h => h.1))) ?_)
  (repeat (first | refine And.intro (by omega) ?_ | refine And.intro ⟨by omega, by omega⟩ ?_))
  refine Exists.intro (algV p n U T) (And.intro (And.intro rfl (And.intro rfl (Spec.mono (l03Algebra_s p n U T Z C S) fun r m h => h.1))) ?_)
  (repeat (first | refine And.intro (by omega) ?_ | refine And.intro ⟨by omega, by omega⟩ ?_))
  generalize leftT p C a = F at hF hF0
  have same := adj_same (p := p) hn T F S b right hF0
  refine LoopVC.of (fun j : Nat => j ≤ n) (fun j => [(3, .bool right), (4, .ptr 0 [] 0 0), (6, .ptr 2 [] 0 0), (8, .ptr 3 [] 0 0), (9, .ptr 4 [] 0 0), (10, .ptr 5 [] 0 0), (11, .ptr 6 [] 0 0), (12, .int .i64 j)])
    (fun j => [some (hopV p n U T Z C S, 1106), some (.ints .u8 8 a, 8), some (.ints .u8 8 b, 8), some (.ints .u8 8 fun _ => 0, 8), some (.ints .u8 64 F, 64), some (.ints .u8 8 (adjM p n T F S b right j 0), 8), some (algV p n U T, 522)]) (fun j => n - j) 0 (by omega) ?_ ?_ ?_
  · exact (And.intro rfl (And.intro rfl (And.intro rfl (And.intro rfl (And.intro rfl (And.intro rfl (And.intro rfl (And.intro rfl (trivial)))))))))
  · refine And.intro (And.intro (hopR p n U T Z C S) rfl) (And.intro (And.intro (rowEq fun _ _ => rfl) rfl) (And.intro (And.intro (rowEq fun _ _ => rfl) rfl) (And.intro (And.intro (rowEq fun _ _ => rfl) rfl) (And.intro (And.intro (rowEq fun q hq => ?_) rfl) (And.intro (And.intro (rowEq fun q hq => ?_) rfl) (And.intro (And.intro (algR p n U T) rfl) trivial))))))
    · show updR _ 0 64 _ q = F q
      simp [updR, hq]
    · show updR _ 0 8 _ q = adjM p n T F S b right 0 0 q
      unfold updR adjM sumN
      rw [if_pos (by omega)]
      simp
  · intro j hj
    refine ifVC_split (fun h => ?_) (fun h => ?_)
    · have hjn : j < n := by have := of_decide_eq_true h; omega
      refine LoopVC.of (fun k : Nat => k ≤ n) (fun k => [(3, .bool right), (4, .ptr 0 [] 0 0), (6, .ptr 2 [] 0 0), (8, .ptr 3 [] 0 0), (9, .ptr 4 [] 0 0), (10, .ptr 5 [] 0 0), (11, .ptr 6 [] 0 0), (12, .int .i64 j), (13, .int .i64 k)])
        (fun k => [some (hopV p n U T Z C S, 1106), some (.ints .u8 8 a, 8), some (.ints .u8 8 b, 8), some (.ints .u8 8 fun _ => 0, 8), some (.ints .u8 64 F, 64), some (.ints .u8 8 (adjM p n T F S b right j k), 8), some (algV p n U T, 522)]) (fun k => n - k) 0 (by omega) ?_ ?_ ?_
      · exact (And.intro rfl (And.intro rfl (And.intro rfl (And.intro rfl (And.intro rfl (And.intro rfl (And.intro rfl (And.intro rfl (And.intro rfl (trivial))))))))))
      · exact And.intro (And.intro (hopR p n U T Z C S) rfl) (And.intro (And.intro (rowEq fun _ _ => rfl) rfl) (And.intro (And.intro (rowEq fun _ _ => rfl) rfl) (And.intro (And.intro (rowEq fun _ _ => rfl) rfl) (And.intro (And.intro (rowEq fun _ _ => rfl) rfl) (And.intro (And.intro (rowEq fun _ _ => rfl) rfl) (And.intro (And.intro (algR p n U T) rfl) trivial))))))
      · intro k hk
        refine ifVC_split (fun h => ?_) (fun h => ?_)
        · have hkn : k < n := by have := of_decide_eq_true h; omega
          have hjx : (j : Int).toNat = j := by omega
          have hkx : (k : Int).toNat = k := by omega
          have hFv := hF (j * 8 + k) (by omega)
          have hFw : F ((k : Int).toNat * 1 + ((j : Int).toNat * 8 + 0)) = F (j * 8 + k) := by rw [hjx, hkx]; congr 1; omega
          have hstep : ∀ M : Mem, True := fun _ => trivial
          (repeat (first | refine And.intro (by omega) ?_ | refine And.intro ⟨by omega, by omega⟩ ?_))
          refine ifVC_split (fun hz => ?_) (fun hz => ?_)
          · -- nothing is added
            have hz : F (j * 8 + k) = 0 := by
              have hz : (F ((k : Int).toNat * 1 + ((j : Int).toNat * 8 + 0)) == 0) = true := hz
              rw [hFw] at hz; exact eq_of_beq hz
            refine Exists.intro (k + 1) (And.intro (by omega) (And.intro (by omega) (And.intro (And.intro rfl (And.intro rfl (And.intro rfl (And.intro rfl (And.intro rfl (And.intro rfl (And.intro rfl (And.intro rfl (And.intro (slotI (wrapS (by omega))) trivial))))))))) ?_)))
            exact And.intro (And.intro (hopR p n U T Z C S) rfl) (And.intro (And.intro (rowEq fun _ _ => rfl) rfl) (And.intro (And.intro (rowEq fun _ _ => rfl) rfl) (And.intro (And.intro (rowEq fun _ _ => rfl) rfl) (And.intro (And.intro (rowEq fun _ _ => rfl) rfl) (And.intro (And.intro (rowEq fun q hq => adjM_zero n T F S b right j k q hz) rfl) (And.intro (And.intro (algR p n U T) rfl) trivial))))))
          · have rest : ∀ (A W : Nat → Int), (∀ q, q < 8 → A q = adjA S right j q) → (∀ q, q < 8 → W q = adjX S right k q) → ∀ q, q < 8 →
                updR (adjM p n T F S b right j k) 0 8 (addM p (fun i => adjM p n T F S b right j k (i + 0)) (IntKind.i64.wrap (F ((k : Int).toNat * 1 + ((j : Int).toNat * 8 + 0)))) fun m => timS p n T (fun m => timS p n T (fun i => A (i + 0)) (fun i => b (i + 0)) n m % p) (fun i => W (i + 0)) n m % p) q = adjM p n T F S b right j (k + 1) q := fun A W hA hW q hq => by
              rw [hFw, wrapI (x := F (j * 8 + k)) (by omega)]
              have zA : ∀ i, n ≤ i → i < 8 → A i = 0 := fun i h1 h2 => by
                rw [hA i h2]; unfold adjA
                split
                · unfold partF; rw [hV.szero j i (by omega) h2 (.inr h1)]
                · unfold unitV; rw [if_neg (by omega)]
              have zW : ∀ i, n ≤ i → i < 8 → W i = 0 := fun i h1 h2 => by
                rw [hW i h2]; unfold adjX
                split
                · unfold unitV; rw [if_neg (by omega)]
                · unfold partF; rw [hV.szero k i (by omega) h2 (.inr h1)]
              have e1 : ∀ m, m < 8 → timS p n T (fun i => A (i + 0)) (fun i => b (i + 0)) n m % p = prodF p T A b m := fun m hm => prod_eq hV.a zA hbz hm
              have z1 : ∀ m, n ≤ m → m < 8 → timS p n T (fun i => A (i + 0)) (fun i => b (i + 0)) n m % p = 0 := fun m h1 h2 => by
                rw [e1 m h2]; exact prodF_zero hV.a A b h2 h1
              have e2 : timS p n T (fun m => timS p n T (fun i => A (i + 0)) (fun i => b (i + 0)) n m % p) (fun i => W (i + 0)) n q % p = adjP p T S b right j k q := by
                rw [prod_eq (w := fun i => W (i + 0)) hV.a z1 zW hq]
                unfold adjP
                exact prodF_congrA (fun i hi => (e1 i hi).trans (prodF_congrA hA (fun _ _ => rfl) i)) hW q
              rw [← adjM_step, ← e2]
              simp only [updR, addM, Nat.zero_le, true_and, Nat.zero_add, Nat.add_zero, hq, if_true, Nat.sub_zero]
            refine Exists.intro 9 (And.intro (by kernel_rfl) ?_)
            refine Exists.intro (.ints .u8 8 (unitV j)) (And.intro (And.intro rfl (And.intro rfl (Spec.mono (l01Basis_s j ⟨by omega, by omega⟩) ?_))) ?_)
            · rintro r m ⟨rfl, _⟩
              rw [hjx]
            (repeat (first | refine And.intro (by omega) ?_ | refine And.intro ⟨by omega, by omega⟩ ?_))
            refine ifVC_split ?_ ?_
            rotate_left
            intro hr
            have hr : right = false := hr
            rotate_left
            intro hr
            have hr : right = true := hr
            (repeat (first | refine And.intro (by omega) ?_ | refine And.intro ⟨by omega, by omega⟩ ?_))
            refine And.intro trivial (Spec.mono (l01Basis_s k ⟨by omega, by omega⟩) ?_)
            rintro r m ⟨rfl, rfl⟩
            rw [hkx]
            (repeat (first | refine And.intro (by omega) ?_ | refine And.intro ⟨by omega, by omega⟩ ?_))
            all_goals
              refine Exists.intro 17 (And.intro (by kernel_rfl) ?_)
              (repeat (first | refine And.intro (by omega) ?_ | refine And.intro ⟨by omega, by omega⟩ ?_))
              refine Exists.intro _ (And.intro (And.intro rfl (And.intro rfl (Spec.mono (l01Times_s p n U T _ _ hp hn (fun q hq => hT _ (by omega)) (fun q hq => ?_) (fun q hq => hb _ (by omega))) fun r m h => h.1))) ?_)
              · simp only [updR, Nat.zero_le, true_and, Nat.zero_add, Nat.add_zero, hq, if_true, Nat.sub_zero]
                first
                  | exact hS _ (by omega)
                  | exact unitV_u8 j 8 q hq
              (repeat (first | refine And.intro (by omega) ?_ | refine And.intro ⟨by omega, by omega⟩ ?_))
              refine Exists.intro _ (And.intro (And.intro rfl (And.intro rfl (Spec.mono (l01Times_s p n U T _ _ hp hn (fun q hq => hT _ (by omega)) (fun q hq => modB hp) (fun q hq => ?_)) fun r m h => h.1))) ?_)
              · simp only [updR, Nat.zero_le, true_and, Nat.zero_add, Nat.add_zero, hq, if_true, Nat.sub_zero]
                first
                  | exact hS _ (by omega)
                  | exact unitV_u8 k 8 q hq
              (repeat (first | refine And.intro (by omega) ?_ | refine And.intro ⟨by omega, by omega⟩ ?_))
              refine Exists.intro _ (And.intro (And.intro rfl (And.intro rfl (Spec.mono (l01Add_s p _ _ _ hp (by rw [hFw, wrapI (by omega)]; omega) (fun q hq => modB hp) (fun q hq => modB hp)) fun r m h => h.1))) ?_)
              (repeat (first | refine And.intro (by omega) ?_ | refine And.intro ⟨by omega, by omega⟩ ?_))
              refine Exists.intro (k + 1) (And.intro (by omega) (And.intro (by omega) (And.intro (And.intro rfl (And.intro rfl (And.intro rfl (And.intro rfl (And.intro rfl (And.intro rfl (And.intro rfl (And.intro rfl (And.intro (slotI (wrapS (by omega))) trivial))))))))) ?_)))
              refine And.intro (And.intro (hopR p n U T Z C S) rfl) (And.intro (And.intro (rowEq fun _ _ => rfl) rfl) (And.intro (And.intro (rowEq fun _ _ => rfl) rfl) (And.intro (And.intro (rowEq fun _ _ => rfl) rfl) (And.intro (And.intro (rowEq fun _ _ => rfl) rfl) (And.intro (And.intro (rowEq fun q hq => ?_) rfl) (And.intro (And.intro (algR p n U T) rfl) trivial))))))
              refine rest _ _ (fun q hq => ?_) (fun q hq => ?_) q hq
              · simp only [updR, Nat.zero_le, true_and, Nat.zero_add, Nat.add_zero, hq, if_true, Nat.sub_zero, adjA, hr, hjx, partF, Bool.false_eq_true, if_false]
              · simp only [updR, Nat.zero_le, true_and, Nat.zero_add, Nat.add_zero, hq, if_true, Nat.sub_zero, adjX, hr, hkx, partF, Bool.false_eq_true, if_false]
        · have hkn : k = n := by have := of_decide_eq_false h; omega
          subst hkn
          refine Exists.intro (j + 1) (And.intro (by omega) (And.intro (by omega) (And.intro (And.intro rfl (And.intro rfl (And.intro rfl (And.intro rfl (And.intro rfl (And.intro rfl (And.intro rfl (And.intro (slotI (wrapS (by omega))) trivial)))))))) ?_)))
          exact And.intro (And.intro (hopR p k U T Z C S) rfl) (And.intro (And.intro (rowEq fun _ _ => rfl) rfl) (And.intro (And.intro (rowEq fun _ _ => rfl) rfl) (And.intro (And.intro (rowEq fun _ _ => rfl) rfl) (And.intro (And.intro (rowEq fun _ _ => rfl) rfl) (And.intro (And.intro (rowEq fun q hq => adjM_next p k T F S b right j q) rfl) (And.intro (And.intro (algR p k U T) rfl) trivial))))))
    · have hjn : j = n := by have := of_decide_eq_false h; omega
      subst hjn
      (repeat (first | refine And.intro (by omega) ?_ | refine And.intro ⟨by omega, by omega⟩ ?_))
      refine rowEq fun q hq => ?_
      rw [← same q j (Nat.le_refl j)]
      show updR _ 0 8 _ q = _
      simp [updR, hq]

/-! ### both sides -/
def hopTwo (p n : Int) (U T Z C S a b : Nat → Int) : Bool := hopB p n U T Z C S && (entriesB p n a && entriesB p n b)
def adjOut (p n : Int) (U T Z C S a b : Nat → Int) (right : Bool) : SV := .tcons (.ints .u8 8 fun j => if hopTwo p n U T Z C S a b = true then adjN p T (leftT p C a) S b right n.toNat j else 0) (.tcons (.int .i64 (if hopTwo p n U T Z C S a b = true then 0 else 1)) .tnil)
section
variable (p n : Int) (U T Z C S : Nat → Int) (hU : isU8 8 U) (hT : isU8 512 T) (hZ : isU8 8 Z) (hC : isU8 512 C) (hS : isU8 64 S) (a : Nat → Int) (ha : isU8 8 a) (b : Nat → Int) (hb : isU8 8 b) (right : Bool)
include hU hT hZ hC hS ha hb
theorem hopTwo_spec (h : hopTwo p n U T Z C S a b = true) : ∃ k : Nat, n = k ∧ HV p k U T Z C S ∧ (∀ i, k ≤ i → i < 8 → a i = 0) ∧ ∀ i, k ≤ i → i < 8 → b i = 0 := by
  unfold hopTwo at h
  simp only [Bool.and_eq_true] at h
  obtain ⟨k, rfl, hV⟩ := hopB_valid hU hT hZ hC hS h.1
  exact ⟨k, rfl, hV, fun i h1 h2 => (entries_get h.2.1 h2).2 (by omega), fun i h1 h2 => (entries_get h.2.2 h2).2 (by omega)⟩
theorem implAdj_s : Spec Try.prog 9 [hopV p n U T Z C S, .ints .u8 8 a, .ints .u8 8 b, .bool right] [] (Ret (adjOut p n U T Z C S a b right)) := by
  refine Spec.ret rfl (Spec.of_vc tabOK tabEq Try.func9 rfl (by kernel_rfl) rfl rfl ?_)
  (repeat (first | refine And.intro (by omega) ?_ | refine And.intro ⟨by omega, by omega⟩ ?_))
  refine And.intro (And.intro rfl trivial) (Spec.mono (isHopfWith_s p n U T Z C S hU hT hZ hC hS 2 (twoV (fun j => 0) a b) (by omega) (two_u8 ha hb)) ?_)
  rintro r m ⟨rfl, rfl⟩
  rw [two_vectors]
  refine ifVC_split (fun hc => ?_) (fun hc => ?_)
  · have hc : hopTwo p n U T Z C S a b = false := by unfold hopTwo; simpa only [Bool.not_eq_true'] using hc
    (repeat (first | refine And.intro (by omega) ?_ | refine And.intro ⟨by omega, by omega⟩ ?_))
    refine And.intro (rowEq fun j hj => ?_) (And.intro (slotI (by simp [hc])) rfl)
    show updR _ 0 8 _ j = _
    simp [updR, hj, hc]
  have hc : hopTwo p n U T Z C S a b = true := by unfold hopTwo; simpa only [Bool.not_eq_false'] using hc
  obtain ⟨n, rfl, hV, haz, hbz⟩ := hopTwo_spec p n U T Z C S hU hT hZ hC hS a ha b hb hc
  (repeat (first | refine And.intro (by omega) ?_ | refine And.intro ⟨by omega, by omega⟩ ?_))
  refine And.intro trivial (Spec.mono (adjoint_s p n U T Z C S _ _ right hV (fun j hj => ha _ (by omega)) (fun j hj => hb _ (by omega))) ?_)
  rintro r m ⟨rfl, rfl⟩
  (repeat (first | refine And.intro (by omega) ?_ | refine And.intro ⟨by omega, by omega⟩ ?_))
  refine And.intro (rowEq fun j hj => ?_) (And.intro (slotI (by simp [hc])) rfl)
  show updR _ 0 8 _ j = _
  simp only [updR, Nat.zero_le, true_and, Nat.zero_add, Nat.add_zero, hj, if_true, Nat.sub_zero, hc, Int.toNat_natCast]
theorem specAdj_s : Spec Try.prog 6 [hopV p n U T Z C S, .ints .u8 8 a, .ints .u8 8 b, .bool right] [] (Ret (adjOut p n U T Z C S a b right)) := by
  refine Spec.ret rfl (Spec.of_vc tabOK tabEq Try.func6 rfl (by kernel_rfl) rfl rfl ?_)
  (repeat (first | refine And.intro (by omega) ?_ | refine And.intro ⟨by omega, by omega⟩ ?_))
  refine And.intro (And.intro rfl trivial) (Spec.mono (l03Code_s p n U T Z C S hU hT hZ hC hS 2 (twoV (fun j => 0) a b) (by omega) (two_u8 ha hb)) ?_)
  rintro r m ⟨rfl, rfl⟩
  rw [two_vectors]
  refine ifVC_split (fun hc => ?_) (fun hc => ?_)
  · have hc : hopTwo p n U T Z C S a b = false := by
      cases hm : hopTwo p n U T Z C S a b with
      | false => rfl
      | true => unfold hopTwo at hm; rw [if_pos hm] at hc; simp at hc
    have hcode : (if (hopB p n U T Z C S && (entriesB p n a && entriesB p n b)) = true then (0 : Int) else 1) = 1 := by unfold hopTwo at hc; simp [hc]
    (repeat (first | refine And.intro (by omega) ?_ | refine And.intro ⟨by omega, by omega⟩ ?_))
    refine And.intro (rowEq fun j hj => ?_) (And.intro (slotI (by rw [hcode]; simp [hc])) rfl)
    show updR _ 0 8 _ j = _
    simp [updR, hj, hc]
  have hc : hopTwo p n U T Z C S a b = true := by
    cases hm : hopTwo p n U T Z C S a b with
    | true => rfl
    | false => unfold hopTwo at hm; rw [if_neg (by rw [hm]; simp)] at hc; simp at hc
  obtain ⟨n, rfl, hV, haz, hbz⟩ := hopTwo_spec p n U T Z C S hU hT hZ hC hS a ha b hb hc
  (repeat (first | refine And.intro (by omega) ?_ | refine And.intro ⟨by omega, by omega⟩ ?_))
  refine And.intro trivial (Spec.mono (l07Adjoint_s p n U T Z C S _ _ right hV (fun j hj => ha _ (by omega)) (fun j hj => hb _ (by omega)) haz hbz) ?_)
  rintro r m ⟨rfl, rfl⟩
  (repeat (first | refine And.intro (by omega) ?_ | refine And.intro ⟨by omega, by omega⟩ ?_))
  refine And.intro (rowEq fun j hj => ?_) (And.intro (slotI (by simp [hc])) rfl)
  show updR _ 0 8 _ j = _
  simp only [updR, Nat.zero_le, true_and, Nat.zero_add, Nat.add_zero, hj, if_true, Nat.sub_zero, hc, Int.toNat_natCast]
theorem lawAdj0_c : Spec Try.prog 3 [hopV p n U T Z C S, .ints .u8 8 a, .ints .u8 8 b, .bool right] [] (Ret (.bool true)) := by
  refine Spec.ret rfl (Spec.of_vc tabOK tabEq Try.func3 rfl (by kernel_rfl) rfl rfl ?_)
  refine Exists.intro 13 (And.intro (by kernel_rfl) ?_)
  refine Exists.intro (hopV p n U T Z C S) (And.intro (And.intro rfl (And.intro rfl (Spec.mono (toHopf_s p n U T Z C S) fun r m h => h.1))) ?_)
  (repeat (first | refine And.intro (by omega) ?_ | refine And.intro ⟨by omega, by omega⟩ ?_))
  refine Exists.intro (.ints .u8 8 a) (And.intro (And.intro rfl (And.intro rfl (Spec.mono (toVector_s _) fun r m h => h.1))) ?_)
  (repeat (first | refine And.intro (by omega) ?_ | refine And.intro ⟨by omega, by omega⟩ ?_))
  refine Exists.intro (.ints .u8 8 b) (And.intro (And.intro rfl (And.intro rfl (Spec.mono (toVector_s _) fun r m h => h.1))) ?_)
  refine Exists.intro (adjOut p n U T Z C S a b right) (And.intro (And.intro rfl (And.intro rfl (Spec.mono (specAdj_s p n U T Z C S hU hT hZ hC hS a ha b hb right) fun r m h => h.1))) ?_)
  (repeat (first | refine And.intro (by omega) ?_ | refine And.intro ⟨by omega, by omega⟩ ?_))
  refine Exists.intro 13 (And.intro (by kernel_rfl) ?_)
  refine Exists.intro (hopV p n U T Z C S) (And.intro (And.intro rfl (And.intro rfl (Spec.mono (toHopf_s p n U T Z C S) fun r m h => h.1))) ?_)
  (repeat (first | refine And.intro (by omega) ?_ | refine And.intro ⟨by omega, by omega⟩ ?_))
  refine Exists.intro (.ints .u8 8 a) (And.intro (And.intro rfl (And.intro rfl (Spec.mono (toVector_s _) fun r m h => h.1))) ?_)
  (repeat (first | refine And.intro (by omega) ?_ | refine And.intro ⟨by omega, by omega⟩ ?_))
  refine Exists.intro (.ints .u8 8 b) (And.intro (And.intro rfl (And.intro rfl (Spec.mono (toVector_s _) fun r m h => h.1))) ?_)
  refine Exists.intro (adjOut p n U T Z C S a b right) (And.intro (And.intro rfl (And.intro rfl (Spec.mono (implAdj_s p n U T Z C S hU hT hZ hC hS a ha b hb right) fun r m h => h.1))) ?_)
  (repeat (first | refine And.intro (by omega) ?_ | refine And.intro ⟨by omega, by omega⟩ ?_))
  refine And.intro trivial (Spec.mono (eqVector_s _ _) ?_)
  rintro r m ⟨rfl, rfl⟩
  refine ifVC_false ?_ ?_
  · rw [allEq_self]
    rfl
  refine ifVC_false (by simp) ?_
  exact boolEq rfl
end
theorem lawAdj_c (p n : Int) (U T Z C S : Nat → Int) (hU : isU8 8 U) (hT : isU8 512 T) (hZ : isU8 8 Z) (hC : isU8 512 C) (hS : isU8 64 S) (a : Nat → Int) (ha : isU8 8 a) (b : Nat → Int) (hb : isU8 8 b) (right : Bool) : Spec Try.prog 3 [hopV p n U T Z C S, .ints .u8 8 a, .ints .u8 8 b, .bool right] [] (Ret (.bool true)) := lawAdj0_c p n U T Z C S hU hT hZ hC hS a ha b hb right
end Go.Proofs.Ytjanlnngeklhoaa

/- Spaces of legs, the program's and the model's. -/
set_option linter.unusedVariables false
set_option linter.unusedSimpArgs false
set_option linter.unusedSectionVars false
set_option maxRecDepth 100000
set_option maxHeartbeats 4000000
namespace Go.Proofs.Ytjanlnngeklhoaa
open M

theorem primeB_rngL {p : Int} (h : primeB p = true) : 2 ≤ p ∧ p ≤ 31 := by
  by_cases e : p < 2 ∨ 31 < p
  · rw [primeB_out e] at h; cases h
  · omega

/-! ### the space -/
/-- the rows of a table and, behind them, its columns -/
def legRow (n : Nat) (F : Nat → Int) (r : Nat) : Nat → Int := if r < n then partF F 8 r else partF (flipL F) 8 (r - n)
/-- the rows and columns in turns -/
def legTurn (F : Nat → Int) (r : Nat) : Nat → Int := if r % 2 = 0 then partF F 8 (r / 2) else partF (flipL F) 8 (r / 2)
def LegS (p n : Nat) (F : Nat → Int) : (Nat → Int) → Prop := Sp p 8 (n + n) (legRow n F)
theorem part_rng {p : Int} {F : Nat → Int} (hF : ∀ q, q < 64 → 0 ≤ F q ∧ F q < p) {r : Nat} (hr : r < 8) : ∀ j, j < 8 → 0 ≤ partF F 8 r j ∧ partF F 8 r j < p := fun j hj => hF _ (by omega)
theorem flip_rng {p : Int} {F : Nat → Int} (hF : ∀ q, q < 64 → 0 ≤ F q ∧ F q < p) : ∀ q, q < 64 → 0 ≤ flipL F q ∧ flipL F q < p := fun q hq => hF _ (by omega)
theorem legRow_rng {p : Int} {n : Nat} {F : Nat → Int} (hn : n ≤ 8) (hF : ∀ q, q < 64 → 0 ≤ F q ∧ F q < p) {r : Nat} (hr : r < n + n) : ∀ j, j < 8 → 0 ≤ legRow n F r j ∧ legRow n F r j < p := fun j hj => by
  unfold legRow
  split
  · exact part_rng hF (by omega) j hj
  · exact part_rng (flip_rng hF) (by omega) j hj
theorem legTurn_rng {p : Int} {n : Nat} {F : Nat → Int} (hn : n ≤ 8) (hF : ∀ q, q < 64 → 0 ≤ F q ∧ F q < p) {r : Nat} (hr : r < n + n) : ∀ j, j < 8 → 0 ≤ legTurn F r j ∧ legTurn F r j < p := fun j hj => by
  unfold legTurn
  split
  · exact part_rng hF (by omega) j hj
  · exact part_rng (flip_rng hF) (by omega) j hj
theorem leg_iff {p n : Nat} {F : Nat → Int} (hp : 1 < p) (hn : n ≤ 8) (hF : ∀ q, q < 64 → 0 ≤ F q ∧ F q < p) (v : Nat → Int) : Sp p 8 (n + n) (legTurn F) v ↔ LegS p n F v := by
  constructor
  · intro h
    refine h.sub (by omega) fun i hi => ?_
    by_cases e : i % 2 = 0
    · have := Sp.row (p := (p : Int)) (n := n + n) (f := legRow n F) (i := i / 2) (by omega) (legRow_rng hn hF (by omega))
      have e1 : legRow n F (i / 2) = legTurn F i := by unfold legRow legTurn; rw [if_pos (by omega), if_pos e]
      rwa [e1] at this
    · have := Sp.row (p := (p : Int)) (n := n + n) (f := legRow n F) (i := n + i / 2) (by omega) (legRow_rng hn hF (by omega))
      have e1 : legRow n F (n + i / 2) = legTurn F i := by unfold legRow legTurn; rw [if_neg (by omega), if_neg e]; congr 1; omega
      rwa [e1] at this
  · intro h
    refine Sp.sub (by omega) (fun i hi => ?_) h
    by_cases e : i < n
    · have := Sp.row (p := (p : Int)) (n := n + n) (f := legTurn F) (i := 2 * i) (by omega) (legTurn_rng hn hF (by omega))
      have e1 : legTurn F (2 * i) = legRow n F i := by unfold legRow legTurn; rw [if_pos (by omega), if_pos e]; congr 1; omega
      rwa [e1] at this
    · have := Sp.row (p := (p : Int)) (n := n + n) (f := legTurn F) (i := 2 * (i - n) + 1) (by omega) (legTurn_rng hn hF (by omega))
      have e1 : legTurn F (2 * (i - n) + 1) = legRow n F i := by unfold legRow legTurn; rw [if_neg (by omega), if_neg e]; congr 1; omega
      rwa [e1] at this

/-! ### the program -/
theorem legsOf_s (p : Int) (n : Nat) (U T Z C S v : Nat → Int) (hV : HV p n U T Z C S) (hv : isU8 8 v) :
    Spec Try.prog 26 [hopV p n U T Z C S, .ints .u8 8 v] [] (fun r m => ∃ c G, r = .sl 0 0 (n + n) c ∧ m = [some (.ints .u8 ((n + n) * 8) G, c * 8)] ∧ ∀ r, r < n + n → ∀ j, j < 8 → G (r * 8 + j) = legRow n (leftT p C v) r j) := by
  have hn := hV.a.hn
  have hn1 := hV.n1
  have hp := hV.a.hp
  refine Spec.single (Q := fun r m => ∃ id c G, r = .sl id 0 (n + n) c ∧ blockOf m id = some (.ints .u8 ((n + n) * 8) G, c * 8) ∧ ∀ r, r < n + n → ∀ j, j < 8 → G (r * 8 + j) = legRow n (leftT p C v) r j) (Spec.of_vc tabOK tabEq Try.func26 rfl (by kernel_rfl) rfl rfl ?_) fun r m' => ?_
  · refine Exists.intro 5 (And.intro (by kernel_rfl) ?_)
    refine Exists.intro (algV p n Z C) (And.intro (And.intro rfl (And.intro rfl (Spec.mono (coalgebraOf_s p n U T Z C S) fun r m h => h.1))) ?_)
    (repeat (first | refine And.intro (by omega) ?_ | refine And.intro ⟨by omega, by omega⟩ ?_))
    refine Exists.intro (.ints .u8 64 (leftT p C v)) (And.intro (And.intro rfl (And.intro rfl (Spec.mono (coproduct_s p n Z C _ hp hV.hC (fun j hj => hv _ (by omega))) fun r m h => h.1))) ?_)
    (repeat (first | refine And.intro (by omega) ?_ | refine And.intro ⟨by omega, by omega⟩ ?_))
    change vc _ _ _ _ _ [some (hopV p n U T Z C S, 1106), some (.ints .u8 8 v, 8), some (.ints .u8 64 (updR (fun _ => 0) 0 64 (leftT p C v)), 64)] _
    refine vc_gen (q := 2) 10 [0, 1, 2, 4, 6, 7] [3, 5, 8, 9] (by kernel_rfl) (by kernel_rfl) (by kernel_rfl) ?_
    refine readsAt_step rfl (by rfl) ?_
    refine readVC_loadR (l := 64) rfl rfl rfl (by omega) ?_
    refine readsAt_step rfl (by rfl) ?_
    refine readVC_fa rfl rfl rfl ?_
    refine readsAt_step rfl (by rfl) ?_
    refine readVC_loadF (v := .int .i64 n) (z := .int .i64 n) rfl rfl rfl rfl (fun _ h => h) ?_
    refine readsAt_step rfl (by rfl) ?_
    refine readVC_loadR (l := 64) rfl rfl rfl (by omega) ?_
    refine readsAt_step rfl (by rfl) ?_
    refine readVC_fa rfl rfl rfl ?_
    refine readsAt_step rfl (by rfl) ?_
    refine readVC_loadF (v := .int .i64 n) (z := .int .i64 n) rfl rfl rfl rfl (fun _ h => h) ?_
    refine readsAt_nil ?_
    refine restVC_call (i := 3) rfl (by rfl) rfl rfl rfl rfl rfl ?_
    refine callVC_new rfl (fun _ => rfl) (Spec.mono (rowsOf_s _ n ⟨hn1, hn⟩) ?_)
    rintro _ _ ⟨rfl, rfl⟩
    refine ⟨n, n, _, 64, rfl, rfl, fun _ => rfl, (Plus.snoc _ _ _ _).preM, ?_⟩
    refine restVC_val (i := 5) rfl (by rfl) rfl rfl rfl rfl rfl rfl (fun _ => rfl) (fun _ => rfl) (flipLinear_s _) ?_
    refine restVC_call (i := 8) rfl (by rfl) rfl rfl rfl rfl rfl ?_
    refine callVC_new rfl (fun _ => rfl) (Spec.mono (rowsOf_s _ n ⟨hn1, hn⟩) ?_)
    rintro _ _ ⟨rfl, rfl⟩
    refine ⟨n, n, _, 64, rfl, rfl, fun _ => rfl, (Plus.snoc _ _ _ _).preM, ?_⟩
    refine restVC_appG (i := 9) rfl (by rfl) (by kernel_rfl) rfl rfl rfl rfl rfl rfl rfl rfl (by omega) ⟨by omega, by omega, by omega, by omega⟩ fun cap' G M hcap h1 h2 p2 => ?_
    refine restVC_nil ?_
    refine opsVC_as rfl rfl rfl ?_
    (repeat (first | (with_reducible refine vc_exit ?_) | (with_reducible refine vc_ret ?_) | (with_reducible refine vc_skip ?_) | (with_reducible refine thenQ_x ?_) | (with_reducible refine thenQ_r ?_) | (with_reducible refine thenQ_n ?_) | (with_reducible refine blockQ_x rfl ?_) | (with_reducible refine blockQ_y rfl ?_) | (with_reducible refine blockQ_n ?_) | (with_reducible refine blockQ_r ?_) | (with_reducible refine vc_seq ?_) | (with_reducible refine vc_region ?_) | (with_reducible refine vc_block ?_) | (with_reducible refine vc_scope ?_) | (with_reducible refine opsVC_nil ?_)))
    refine ⟨_, cap', G, rfl, p2.new, fun r hr j hj => ?_⟩
    unfold legRow
    by_cases e : r < n
    · rw [if_pos e, h1 _ (by omega)]
      show updR (fun _ => 0) 0 64 (leftT p C v) (r * 8 + j + 0 + 0) = partF (leftT p C v) 8 r j
      unfold updR partF
      rw [if_pos (by omega)]
      congr 1; omega
    · rw [if_neg e, show r * 8 + j = n * 8 + ((r - n) * 8 + j) by omega, h2]
      show flipL (fun q => updR (fun _ => 0) 0 64 (leftT p C v) (q + 0)) ((r - n) * 8 + j + 0) = partF (flipL (leftT p C v)) 8 (r - n) j
      unfold partF flipL updR
      dsimp only
      rw [if_pos (by omega)]
      congr 1; omega
  · rintro ⟨id, c, G, rfl, hb, hG⟩
    exact .inr ⟨id, _, _, hb, rfl, by simp [SV.ids], c, G, rfl, rfl, hG⟩

def legCode (p n : Int) (U T Z C S v : Nat → Int) : Int := if hopOne p n U T Z C S v = true then 0 else 1
section
variable (p n : Int) (U T Z C S : Nat → Int) (hU : isU8 8 U) (hT : isU8 512 T) (hZ : isU8 8 Z) (hC : isU8 512 C) (hS : isU8 64 S) (v : Nat → Int) (hv : isU8 8 v)
include hU hT hZ hC hS hv
theorem hopOne_prime (h : hopOne p n U T Z C S v = true) : primeB p = true := by
  unfold hopOne at h
  simp only [Bool.and_eq_true] at h
  have := h.1
  unfold hopB at this
  simp only [Bool.and_eq_true] at this
  have := this.1
  unfold hshB at this
  simp only [Bool.and_eq_true] at this
  have hf := shape_field this.1
  unfold fieldB at hf
  simp only [Bool.and_eq_true] at hf
  exact hf.1
theorem implLegs0_s : Spec Try.prog 12 [hopV p n U T Z C S, .ints .u8 8 v] [] (ListQ false (legCode p n U T Z C S v) p.toNat (LegS p.toNat n.toNat (leftT p C v))) := by
  refine Spec.of_vc (tabOK.dir fun g => Nat.beq g 25) (tabEq.dir _) Try.func12 rfl (by kernel_rfl) rfl rfl ?_
  (repeat (first | refine And.intro (by omega) ?_ | refine And.intro ⟨by omega, by omega⟩ ?_))
  refine And.intro (And.intro rfl trivial) (Spec.mono (isHopfWith_s p n U T Z C S hU hT hZ hC hS 1 (oneV (fun j => 0) v) (by omega) (one_u8 hv)) ?_)
  rintro r m ⟨rfl, rfl⟩
  refine ifVC_split (fun hc => ?_) (fun hc => ?_)
  · have hc := hopOne_bad hc
    exact .inl ⟨by unfold legCode; rw [hc]; simp, by unfold legCode; rw [hc]; rfl⟩
  have hc := hopOne_ok hc
  have hcode : legCode p n U T Z C S v = 0 := by unfold legCode; rw [if_pos hc]
  rw [hcode]
  have hpr := hopOne_prime p n U T Z C S hU hT hZ hC hS v hv hc
  obtain ⟨n, rfl, hV, hz⟩ := hopOne_spec hU hT hZ hC hS hc
  obtain ⟨p, rfl⟩ := Int.eq_ofNat_of_zero_le (show 0 ≤ p by have := hV.a.hp; omega)
  have hp2 : 2 ≤ p ∧ p ≤ 31 := by have := primeB_rngL hpr; omega
  have hn := hV.a.hn
  simp only [Int.toNat_natCast]
  have hM : ∀ q, q < 64 → 0 ≤ leftT p C v q ∧ leftT p C v q < p := fun q _ => mod_rng (by omega) _
  change vc _ _ _ _ _ [some (hopV p n U T Z C S, 1106), some (.ints .u8 8 v, 8), some (.ints .u8 (1 * 8) (oneV (fun j => 0) v), 1 * 8)] _
  refine vc_gen (q := 3) 6 [0, 1, 2, 3] [4, 5] (by kernel_rfl) (by kernel_rfl) (by kernel_rfl) ?_
  refine readsAt_step rfl (by rfl) ?_
  refine readVC_fa rfl rfl rfl ?_
  refine readsAt_step rfl (by rfl) ?_
  refine readVC_loadF (v := .int .i64 p) (z := .int .i64 p) rfl rfl rfl rfl (fun _ h => h) ?_
  refine readsAt_step rfl (by rfl) ?_
  refine readVC_loadF (v := hopV p n U T Z C S) (z := hopV p n U T Z C S) rfl rfl rfl rfl (fun _ h => h) ?_
  refine readsAt_step rfl (by rfl) ?_
  refine readVC_loadR (l := 8) rfl rfl rfl (by omega) ?_
  refine readsAt_nil ?_
  refine restVC_call (i := 4) rfl (by rfl) rfl rfl rfl rfl rfl ?_
  refine callVC_new rfl (fun _ => rfl) (Spec.mono (legsOf_s p n U T Z C S v hV (fun j hj => hv _ (by omega))) ?_)
  rintro _ _ ⟨c, G, rfl, rfl, hG⟩
  refine ⟨n + n, c, _, c * 8, rfl, rfl, fun _ => rfl, (Plus.snoc _ _ _ _).preM, ?_⟩
  have hGr : ∀ q, q < (n + n) * 8 → 0 ≤ G q ∧ G q < p := fun q hq => by
    have := hG (q / 8) (by omega) (q % 8) (by omega)
    rw [show q / 8 * 8 + q % 8 = q by omega] at this
    rw [this]
    exact legRow_rng hn hM (by omega) _ (by omega)
  refine restVC_dirR (i := 5) rfl (by rfl) rfl rfl rfl rfl rfl ?_
  refine Spec.mono (reduced_s _ (n + n) ((n + n) * 8) p 3 c (c * 8) G rfl (Nat.le_refl _) (fun id u d hb q hq => ?_) (by omega) hpr hp2 hGr) ?_
  · match id with
    | 0 => cases hb; simp [hopV, SV.ids] at hq
    | 1 => cases hb; cases hq
    | 2 => cases hb; cases hq
    | 3 => cases hb; cases hq
    | id + 4 => cases hb
  rintro r m' ⟨id, k, A, rfl, hk, hR, hb, hid, hl, hold, hclo⟩
  refine ⟨fun q hq h => by rw [hold q hq] at h; exact h, preM_of _ _ hl hold, ?_⟩
  refine restVC_nil ?_
  refine opsVC_as rfl rfl rfl ?_
  refine opsVC_as rfl rfl rfl ?_
  (repeat (first | (with_reducible refine vc_exit ?_) | (with_reducible refine vc_ret ?_) | (with_reducible refine vc_skip ?_) | (with_reducible refine thenQ_x ?_) | (with_reducible refine thenQ_r ?_) | (with_reducible refine thenQ_n ?_) | (with_reducible refine blockQ_x rfl ?_) | (with_reducible refine blockQ_y rfl ?_) | (with_reducible refine blockQ_n ?_) | (with_reducible refine blockQ_r ?_) | (with_reducible refine vc_seq ?_) | (with_reducible refine vc_region ?_) | (with_reducible refine vc_block ?_) | (with_reducible refine vc_scope ?_) | (with_reducible refine opsVC_nil ?_)))
  have hR : RedL p (LegS p n (leftT p C v)) k A := hR.of_iff fun x => Sp.congr (by omega) (fun l hl j hj => hG l hl j hj) (fun l hl j hj => hGr _ (by omega))
  exact .inr (.inl ⟨rfl, id, k, k, A, fun h => Bool.noConfusion h, rfl, hR, Nat.le_refl _, hb⟩)
theorem implLegs_s : Spec Try.prog 12 [hopV p n U T Z C S, .ints .u8 8 v] [] (ListR false (legCode p n U T Z C S v) p.toNat (LegS p.toNat n.toNat (leftT p C v))) := ListQ.one (implLegs0_s p n U T Z C S hU hT hZ hC hS v hv)
end
end Go.Proofs.Ytjanlnngeklhoaa

/- Spaces of legs: the model, and LegsOf on both sides. -/
set_option linter.unusedVariables false
set_option linter.unusedSimpArgs false
set_option linter.unusedSectionVars false
set_option maxRecDepth 100000
set_option maxHeartbeats 4000000
namespace Go.Proofs.Ytjanlnngeklhoaa
open M

theorem AddTo.congrL {p : Int} {S S' : (Nat → Int) → Prop} {v u : Nat → Int} (h : AddTo p S v S') (hS : Space p 8 S') (e : ∀ j, j < 8 → u j = v j) : AddTo p S u S' :=
  ⟨h.sub, hS.ext v u h.mem e, fun x hx => by
    obtain ⟨s, c, h1, h2⟩ := h.all x hx
    exact ⟨s, c, h1, fun j hj => by rw [h2 j hj, e j hj]⟩⟩
def colF (n : Nat) (F : Nat → Int) (i : Nat) : Nat → Int := fun q => if q < n then F (q * 8 + i) else 0
theorem colF_eq {n : Nat} {F : Nat → Int} (hF : ∀ q, q < 64 → n ≤ q / 8 → F q = 0) {i : Nat} (hi : i < 8) : ∀ j, j < 8 → colF n F i j = partF (flipL F) 8 i j := fun j hj => by
  unfold colF partF flipL
  rw [show (j + i * 8) % 8 * 8 + (j + i * 8) / 8 = j * 8 + i by omega]
  by_cases e : j < n
  · rw [if_pos e]
  · rw [if_neg e, hF _ (by omega) (by omega)]
theorem l07Legs_s (p n : Nat) (U T Z C S v : Nat → Int) (hp : primeB (p : Int) = true) (hp2 : 2 ≤ p ∧ p ≤ 31) (hV : HV p n U T Z C S) (hv : isU8 8 v) (hz : ∀ i, n ≤ i → i < 8 → v i = 0) :
    Spec Try.prog 24 [hopV p n U T Z C S, .ints .u8 8 v] [] (fun r m => ∃ id k c A, RedL p (LegS p n (leftT p C v)) k A ∧ k ≤ c ∧ r = .sl id 0 k c ∧ blockOf m id = some (.ints .u8 (k * 8) A, c * 8)) := by
  have hn := hV.a.hn
  have hF : ∀ q, q < 64 → 0 ≤ leftT p C v q ∧ leftT p C v q < p := fun q _ => mod_rng (by omega) _
  have hF0 : ∀ q, q < 64 → n ≤ q / 8 → leftT p C v q = 0 := fun q hq hge => by rw [cop_left hV.c hz hq, if_neg (by omega)]
  refine (Spec.of_vc tabOK tabEq Try.func24 rfl (by kernel_rfl) rfl rfl ?_)
  (repeat (first | refine And.intro (by omega) ?_ | refine And.intro ⟨by omega, by omega⟩ ?_))
  refine And.intro trivial (Spec.mono (l03Coproduct_s p n U T Z C S _ hV.c hV.hC (fun j hj => hv _ (by omega)) hz) ?_)
  rintro r m ⟨rfl, rfl⟩
  (repeat (first | refine And.intro (by omega) ?_ | refine And.intro ⟨by omega, by omega⟩ ?_))
  change vc _ _ _ _ _ [some (hopV p n U T Z C S, 1106), some (.ints .u8 8 v, 8), some (.ints .u8 0 fun _ => 0, 0), some (.ints .u8 64 (updR (fun _ => 0) 0 64 (leftT p C v)), 64)] _
  generalize leftT p C v = F at hF hF0
  refine LoopVC.ofR (fun x : Nat × Nat × Nat × (Nat → Int) => x.1 ≤ n ∧ x.2.1 ≤ x.2.2.1 ∧ RedL p (Sp p 8 (x.1 + x.1) (legTurn F)) x.2.1 x.2.2.2)
    (fun x => [(2, .ptr 0 [] 0 0), (3, .ptr 1 [] 0 0), (5, .ptr 3 [] 0 0), (6, .sl 2 0 x.2.1 x.2.2.1), (7, .int .i64 x.1)])
    (fun x => [some (hopV p n U T Z C S, 1106), some (.ints .u8 8 v, 8), some (.ints .u8 (x.2.1 * 8) x.2.2.2, x.2.2.1 * 8), some (.ints .u8 64 F, 64)]) (fun x => n - x.1) (0, 0, 0, fun _ => 0) ⟨Nat.zero_le _, Nat.le_refl _, redL_zero⟩ (fun i => i) (RenTo.same ?_ ?_) ?_ ?_ ?_
  · exact (And.intro rfl (And.intro rfl (And.intro rfl (And.intro rfl (And.intro rfl (trivial))))))
  · intro id u d hb
    match id with
    | 0 => cases hb; exact ⟨_, rfl, hopR _ _ _ _ _ _ _⟩
    | 1 => cases hb; exact ⟨_, rfl, eqv_refl _⟩
    | 2 => cases hb; exact ⟨_, rfl, ⟨⟨rfl, rfl⟩, fun j hj => by omega⟩⟩
    | 3 => cases hb; exact ⟨_, rfl, rowEq fun q hq => by simp [updR, hq]⟩
    | id + 4 => cases hb
  · intro x hx; exact Nat.zero_le _
  · intro x hx
    refine OkP.of (by simp [SV.ids]) fun id u c hb q hq => ?_
    match id with
    | 0 => cases hb; simp [hopV, SV.ids] at hq
    | 1 => cases hb; cases hq
    | 2 => cases hb; cases hq
    | 3 => cases hb; cases hq
    | id + 4 => cases hb
  · rintro ⟨i, k, c, A⟩ ⟨hi, hc, hA⟩
    dsimp only at hi hc hA
    refine ifVC_split (fun hh => ?_) (fun hh => ?_)
    · have hin : i < n := by have := of_decide_eq_true hh; omega
      (repeat (first | refine And.intro (by omega) ?_ | refine And.intro ⟨by omega, by omega⟩ ?_))
      refine LoopVC.of (fun l : Nat => l ≤ n) (fun l => [(2, .ptr 0 [] 0 0), (3, .ptr 1 [] 0 0), (5, .ptr 3 [] 0 0), (6, .sl 2 0 k c), (7, .int .i64 i), (8, .ptr 4 [] 0 0), (9, .int .i64 l)])
        (fun l => [some (hopV p n U T Z C S, 1106), some (.ints .u8 8 v, 8), some (.ints .u8 (k * 8) A, c * 8), some (.ints .u8 64 F, 64), some (.ints .u8 8 fun q => if q < l then colF n F i q else 0, 8)]) (fun l => n - l) 0 (Nat.zero_le _) ?_ ?_ ?_
      · exact (And.intro rfl (And.intro rfl (And.intro rfl (And.intro rfl (And.intro rfl (And.intro rfl (And.intro rfl (trivial))))))))
      · refine And.intro (And.intro (hopR p n U T Z C S) rfl) (And.intro (And.intro (rowEq fun _ _ => rfl) rfl) (And.intro (And.intro (rowEq fun _ _ => rfl) rfl) (And.intro (And.intro (rowEq fun _ _ => rfl) rfl) (And.intro (And.intro (rowEq fun q hq => ?_) rfl) trivial))))
        show updR _ 0 8 _ q = _
        simp [updR, hq]
      · intro l hl
        refine ifVC_split (fun h3 => ?_) (fun h3 => ?_)
        · have hln : l < n := by have := of_decide_eq_true h3; omega
          have hlx : (l : Int).toNat = l := by omega
          have hix : (i : Int).toNat = i := by omega
          (repeat (first | refine And.intro (by omega) ?_ | refine And.intro ⟨by omega, by omega⟩ ?_))
          refine Exists.intro (l + 1) (And.intro (by omega) (And.intro (by omega) (And.intro (And.intro rfl (And.intro rfl (And.intro rfl (And.intro rfl (And.intro rfl (And.intro rfl (And.intro (slotI (wrapS (by omega))) trivial))))))) ?_)))
          refine And.intro (And.intro (hopR p n U T Z C S) rfl) (And.intro (And.intro (rowEq fun _ _ => rfl) rfl) (And.intro (And.intro (rowEq fun _ _ => rfl) rfl) (And.intro (And.intro (rowEq fun _ _ => rfl) rfl) (And.intro (And.intro (rowEq fun q hq => ?_) rfl) trivial))))
          show upd1 _ ((l : Int).toNat * 1 + 0) (F ((i : Int).toNat * 1 + ((l : Int).toNat * 8 + 0))) q = _
          unfold upd1
          rw [hlx, hix]
          dsimp only
          by_cases e : q = l * 1 + 0
          · rw [if_pos e, if_pos (by omega)]
            unfold colF
            rw [if_pos (by omega)]
            congr 1; omega
          · rw [if_neg e]
            by_cases e2 : q < l
            · rw [if_pos e2, if_pos (by omega)]
            · rw [if_neg e2, if_neg (by omega)]
        · have hln : l = n := by have := of_decide_eq_false h3; omega
          subst hln
          have hfe : (fun q => if q < l then colF l F i q else 0) = colF l F i := funext fun q => by
            by_cases e : q < l
            · rw [if_pos e]
            · rw [if_neg e]; unfold colF; rw [if_neg e]
          rw [hfe]
          have hk8 := red_k hA
          have e1 : legTurn F (i + i) = partF F 8 i := by unfold legTurn; rw [if_pos (by omega)]; congr 1; omega
          have e2 : legTurn F (i + i + 1) = partF (flipL F) 8 i := by unfold legTurn; rw [if_neg (by omega)]; congr 1; omega
          have s0 : Space p 8 (Sp p 8 (i + i) (legTurn F)) := Sp.space (by omega)
          have s1 : Space p 8 (Sp p 8 (i + i + 1) (legTurn F)) := Sp.space (by omega)
          have s2 : Space p 8 (Sp p 8 (i + 1 + (i + 1)) (legTurn F)) := Sp.space (by omega)
          have r1 : ∀ j, j < 8 → 0 ≤ partF F 8 i j ∧ partF F 8 i j < p := part_rng hF (by omega)
          have r2 : ∀ j, j < 8 → 0 ≤ colF l F i j ∧ colF l F i j < p := fun j hj => by rw [colF_eq hF0 (by omega) j hj]; exact part_rng (flip_rng hF) (by omega) j hj
          have a1 : AddTo p (Sp p 8 (i + i) (legTurn F)) (partF F 8 i) (Sp p 8 (i + i + 1) (legTurn F)) := by
            have := addTo_sp (p := (p : Int)) (i := i + i) (V := legTurn F) (by omega) (by rw [e1]; exact r1)
            rwa [e1] at this
          have a2 : AddTo p (Sp p 8 (i + i + 1) (legTurn F)) (colF l F i) (Sp p 8 (i + 1 + (i + 1)) (legTurn F)) := by
            have := addTo_sp (p := (p : Int)) (i := i + i + 1) (V := legTurn F) (by omega) (by rw [e2]; exact part_rng (flip_rng hF) (by omega))
            rw [e2, show i + i + 1 + 1 = i + 1 + (i + 1) by omega] at this
            exact this.congrL s2 (colF_eq hF0 (by omega))
          refine vc_gen (q := 10) 11 [0, 1, 2, 3, 4, 5, 6, 7, 9] [8, 10] (by kernel_rfl) (by kernel_rfl) (by kernel_rfl) ?_
          refine readsAt_step rfl (by rfl) ?_
          refine readVC_fa rfl rfl rfl ?_
          refine readsAt_step rfl (by rfl) ?_
          refine readVC_loadF (v := .int .i64 p) (z := .int .i64 p) rfl rfl rfl rfl (fun _ h => h) ?_
          refine readsAt_step rfl (by rfl) ?_
          refine readVC_fa rfl rfl rfl ?_
          refine readsAt_step rfl (by rfl) ?_
          refine readVC_loadF (v := .int .i64 p) (z := .int .i64 p) rfl rfl rfl rfl (fun _ h => h) ?_
          refine readsAt_step rfl (by rfl) ?_
          refine readVC_mv rfl ?_
          refine readsAt_step rfl (by rfl) ?_
          refine readVC_mv rfl ?_
          refine readsAt_step rfl (by rfl) ?_
          refine readVC_iaA rfl rfl rfl ⟨by omega, by omega⟩ ?_
          refine readsAt_step rfl (by rfl) ?_
          refine readVC_loadR (l := 8) rfl rfl rfl (by omega) ?_
          refine readsAt_step rfl (by rfl) ?_
          refine readVC_loadR (l := 8) rfl rfl rfl (by omega) ?_
          refine readsAt_nil ?_
          refine restVC_call (i := 8) rfl (by rfl) rfl rfl rfl rfl rfl ?_
          refine And.intro (And.intro rfl trivial) (Spec.mono (show Spec Try.prog 47 [.int .i64 p, .sl 0 0 k c, .ints .u8 8 fun j => F (j + ((i : Int).toNat * 8 + 0))] [some (.ints .u8 (k * 8) A, c * 8)] (PutR p k c (Sp p 8 (i + i + 1) (legTurn F)) A) from l01PutR_s p k c _ _ A (partF F 8 i) hp hp2 s0 s1 hA a1 r1) ?_)
          rintro r m (⟨hR1, rfl, rfl⟩ | ⟨c1, A1, hR1, hc1, rfl, rfl⟩) <;> refine And.intro (by repeat (first | exact trivial | refine And.intro rfl ?_)) ?_
          · change restVC _ _ _ _ _ _ _ _ [some (hopV p l U T Z C S, 1106), some (.ints .u8 8 v, 8), some (.ints .u8 (k * 8) A, c * 8), some (.ints .u8 64 F, 64), some (.ints .u8 8 (colF l F i), 8)] _
            refine restVC_call (i := 10) rfl (by rfl) rfl rfl rfl rfl rfl ?_
            refine And.intro (And.intro rfl trivial) (Spec.mono (show Spec Try.prog 47 [.int .i64 p, .sl 0 0 k c, .ints .u8 8 fun j => colF l F i (j + 0)] [some (.ints .u8 (k * 8) A, c * 8)] (PutR p k c (Sp p 8 (i + 1 + (i + 1)) (legTurn F)) A) from l01PutR_s p k c _ _ A (colF l F i) hp hp2 s1 s2 hR1 a2 r2) ?_)
            rintro r m (⟨hR2, rfl, rfl⟩ | ⟨c2, A2, hR2, hc2, rfl, rfl⟩) <;> refine And.intro (by repeat (first | exact trivial | refine And.intro rfl ?_)) ?_
            · refine restVC_nil ?_
              refine opsVC_as rfl rfl rfl ?_
              (repeat (first | (with_reducible refine vc_exit ?_) | (with_reducible refine vc_ret ?_) | (with_reducible refine vc_skip ?_) | (with_reducible refine thenQ_x ?_) | (with_reducible refine thenQ_r ?_) | (with_reducible refine thenQ_n ?_) | (with_reducible refine blockQ_x rfl ?_) | (with_reducible refine blockQ_y rfl ?_) | (with_reducible refine blockQ_n ?_) | (with_reducible refine blockQ_r ?_) | (with_reducible refine vc_seq ?_) | (with_reducible refine vc_region ?_) | (with_reducible refine vc_block ?_) | (with_reducible refine vc_scope ?_) | (with_reducible refine opsVC_nil ?_)))
              refine Exists.intro (i + 1, k, c, A) (Exists.intro (fun i => i) (And.intro ⟨hin, hc, hR2⟩ (And.intro (show l - (i + 1) < l - i by omega) (renTo_mk ?_ (fun i hi => absurd hi (Nat.not_lt_zero _)) (fun id u d hb => ?_) fun x y hx hy e => ?_))))
              · exact And.intro rfl (And.intro rfl (And.intro rfl (And.intro rfl (And.intro (slotI (wrapS (by omega))) trivial))))
              · match id with
                | 0 => cases hb; exact ⟨fun _ => Nat.zero_le _, _, rfl, hopR _ _ _ _ _ _ _⟩
                | 1 => cases hb; exact ⟨fun _ => Nat.zero_le _, _, rfl, eqv_refl _⟩
                | 2 => cases hb; exact ⟨fun _ => Nat.zero_le _, _, rfl, eqv_refl _⟩
                | 3 => cases hb; exact ⟨fun _ => Nat.zero_le _, _, rfl, eqv_refl _⟩
                | id + 4 => cases hb
              · exact e
            · refine restVC_nil ?_
              refine opsVC_as rfl rfl rfl ?_
              (repeat (first | (with_reducible refine vc_exit ?_) | (with_reducible refine vc_ret ?_) | (with_reducible refine vc_skip ?_) | (with_reducible refine thenQ_x ?_) | (with_reducible refine thenQ_r ?_) | (with_reducible refine thenQ_n ?_) | (with_reducible refine blockQ_x rfl ?_) | (with_reducible refine blockQ_y rfl ?_) | (with_reducible refine blockQ_n ?_) | (with_reducible refine blockQ_r ?_) | (with_reducible refine vc_seq ?_) | (with_reducible refine vc_region ?_) | (with_reducible refine vc_block ?_) | (with_reducible refine vc_scope ?_) | (with_reducible refine opsVC_nil ?_)))
              refine Exists.intro (i + 1, k + 1, c2, A2) (Exists.intro (fun i => if i = 2 then 5 else i) (And.intro ⟨hin, hc2, hR2⟩ (And.intro (show l - (i + 1) < l - i by omega) (renTo_mk ?_ (fun i hi => absurd hi (Nat.not_lt_zero _)) (fun id u d hb => ?_) fun x y hx hy e => ?_))))
              · exact And.intro rfl (And.intro rfl (And.intro rfl (And.intro rfl (And.intro (slotI (wrapS (by omega))) trivial))))
              · match id with
                | 0 => cases hb; exact ⟨fun _ => Nat.zero_le _, _, rfl, hopR _ _ _ _ _ _ _⟩
                | 1 => cases hb; exact ⟨fun _ => Nat.zero_le _, _, rfl, eqv_refl _⟩
                | 2 => cases hb; exact ⟨fun _ => Nat.zero_le _, _, rfl, eqv_refl _⟩
                | 3 => cases hb; exact ⟨fun _ => Nat.zero_le _, _, rfl, eqv_refl _⟩
                | id + 4 => cases hb
              · have hx : x < 4 := hx
                have hy : y < 4 := hy
                have e : (if x = 2 then 5 else x) = if y = 2 then 5 else y := e
                split at e <;> split at e <;> omega
          · change restVC _ _ _ _ _ _ _ _ [some (hopV p l U T Z C S, 1106), some (.ints .u8 8 v, 8), some (.ints .u8 (k * 8) A, c * 8), some (.ints .u8 64 F, 64), some (.ints .u8 8 (colF l F i), 8), some (.ints .u8 ((k + 1) * 8) A1, c1 * 8)] _
            refine restVC_call (i := 10) rfl (by rfl) rfl rfl rfl rfl rfl ?_
            refine And.intro (And.intro rfl trivial) (Spec.mono (show Spec Try.prog 47 [.int .i64 p, .sl 0 0 (k + 1) c1, .ints .u8 8 fun j => colF l F i (j + 0)] [some (.ints .u8 ((k + 1) * 8) A1, c1 * 8)] (PutR p (k + 1) c1 (Sp p 8 (i + 1 + (i + 1)) (legTurn F)) A1) from l01PutR_s p (k + 1) c1 _ _ A1 (colF l F i) hp hp2 s1 s2 hR1 a2 r2) ?_)
            rintro r m (⟨hR2, rfl, rfl⟩ | ⟨c2, A2, hR2, hc2, rfl, rfl⟩) <;> refine And.intro (by repeat (first | exact trivial | refine And.intro rfl ?_)) ?_
            · refine restVC_nil ?_
              refine opsVC_as rfl rfl rfl ?_
              (repeat (first | (with_reducible refine vc_exit ?_) | (with_reducible refine vc_ret ?_) | (with_reducible refine vc_skip ?_) | (with_reducible refine thenQ_x ?_) | (with_reducible refine thenQ_r ?_) | (with_reducible refine thenQ_n ?_) | (with_reducible refine blockQ_x rfl ?_) | (with_reducible refine blockQ_y rfl ?_) | (with_reducible refine blockQ_n ?_) | (with_reducible refine blockQ_r ?_) | (with_reducible refine vc_seq ?_) | (with_reducible refine vc_region ?_) | (with_reducible refine vc_block ?_) | (with_reducible refine vc_scope ?_) | (with_reducible refine opsVC_nil ?_)))
              refine Exists.intro (i + 1, k + 1, c1, A1) (Exists.intro (fun i => if i = 2 then 5 else i) (And.intro ⟨hin, hc1, hR2⟩ (And.intro (show l - (i + 1) < l - i by omega) (renTo_mk ?_ (fun i hi => absurd hi (Nat.not_lt_zero _)) (fun id u d hb => ?_) fun x y hx hy e => ?_))))
              · exact And.intro rfl (And.intro rfl (And.intro rfl (And.intro rfl (And.intro (slotI (wrapS (by omega))) trivial))))
              · match id with
                | 0 => cases hb; exact ⟨fun _ => Nat.zero_le _, _, rfl, hopR _ _ _ _ _ _ _⟩
                | 1 => cases hb; exact ⟨fun _ => Nat.zero_le _, _, rfl, eqv_refl _⟩
                | 2 => cases hb; exact ⟨fun _ => Nat.zero_le _, _, rfl, eqv_refl _⟩
                | 3 => cases hb; exact ⟨fun _ => Nat.zero_le _, _, rfl, eqv_refl _⟩
                | id + 4 => cases hb
              · have hx : x < 4 := hx
                have hy : y < 4 := hy
                have e : (if x = 2 then 5 else x) = if y = 2 then 5 else y := e
                split at e <;> split at e <;> omega
            · refine restVC_nil ?_
              refine opsVC_as rfl rfl rfl ?_
              (repeat (first | (with_reducible refine vc_exit ?_) | (with_reducible refine vc_ret ?_) | (with_reducible refine vc_skip ?_) | (with_reducible refine thenQ_x ?_) | (with_reducible refine thenQ_r ?_) | (with_reducible refine thenQ_n ?_) | (with_reducible refine blockQ_x rfl ?_) | (with_reducible refine blockQ_y rfl ?_) | (with_reducible refine blockQ_n ?_) | (with_reducible refine blockQ_r ?_) | (with_reducible refine vc_seq ?_) | (with_reducible refine vc_region ?_) | (with_reducible refine vc_block ?_) | (with_reducible refine vc_scope ?_) | (with_reducible refine opsVC_nil ?_)))
              refine Exists.intro (i + 1, k + 1 + 1, c2, A2) (Exists.intro (fun i => if i = 2 then 6 else i) (And.intro ⟨hin, hc2, hR2⟩ (And.intro (show l - (i + 1) < l - i by omega) (renTo_mk ?_ (fun i hi => absurd hi (Nat.not_lt_zero _)) (fun id u d hb => ?_) fun x y hx hy e => ?_))))
              · exact And.intro rfl (And.intro rfl (And.intro rfl (And.intro rfl (And.intro (slotI (wrapS (by omega))) trivial))))
              · match id with
                | 0 => cases hb; exact ⟨fun _ => Nat.zero_le _, _, rfl, hopR _ _ _ _ _ _ _⟩
                | 1 => cases hb; exact ⟨fun _ => Nat.zero_le _, _, rfl, eqv_refl _⟩
                | 2 => cases hb; exact ⟨fun _ => Nat.zero_le _, _, rfl, eqv_refl _⟩
                | 3 => cases hb; exact ⟨fun _ => Nat.zero_le _, _, rfl, eqv_refl _⟩
                | id + 4 => cases hb
              · have hx : x < 4 := hx
                have hy : y < 4 := hy
                have e : (if x = 2 then 6 else x) = if y = 2 then 6 else y := e
                split at e <;> split at e <;> omega
    · have hin : i = n := by have := of_decide_eq_false hh; omega
      subst hin
      exact ⟨2, k, c, A, hA.of_iff (leg_iff (by omega) hn hF), hc, rfl, rfl⟩

section
variable (p n : Int) (U T Z C S : Nat → Int) (hU : isU8 8 U) (hT : isU8 512 T) (hZ : isU8 8 Z) (hC : isU8 512 C) (hS : isU8 64 S) (v : Nat → Int) (hv : isU8 8 v)
include hU hT hZ hC hS hv
theorem specLegs_s : Spec Try.prog 11 [hopV p n U T Z C S, .ints .u8 8 v] [] (ListR false (legCode p n U T Z C S v) p.toNat (LegS p.toNat n.toNat (leftT p C v))) := by
  refine ListQ.one (Spec.of_vc tabOK tabEq Try.func11 rfl (by kernel_rfl) rfl rfl ?_)
  (repeat (first | refine And.intro (by omega) ?_ | refine And.intro ⟨by omega, by omega⟩ ?_))
  refine And.intro (And.intro rfl trivial) (Spec.mono (l03Code_s p n U T Z C S hU hT hZ hC hS 1 (oneV (fun j => 0) v) (by omega) (one_u8 hv)) ?_)
  rintro r m ⟨rfl, rfl⟩
  rw [one_vectors]
  refine ifVC_split (fun hc => ?_) (fun hc => ?_)
  · have hd := hopOne_bad2 hc
    exact .inl ⟨by unfold legCode; rw [hd]; simp, by unfold legCode; rw [hd, hopOne_code hd]; rfl⟩
  have hc := hopOne_ok2 hc
  have hcode : legCode p n U T Z C S v = 0 := by unfold legCode; rw [if_pos hc]
  rw [hcode]
  have hpr := hopOne_prime p n U T Z C S hU hT hZ hC hS v hv hc
  obtain ⟨n, rfl, hV, hz⟩ := hopOne_spec hU hT hZ hC hS hc
  obtain ⟨p, rfl⟩ := Int.eq_ofNat_of_zero_le (show 0 ≤ p by have := hV.a.hp; omega)
  have hp2 : 2 ≤ p ∧ p ≤ 31 := by have := primeB_rngL hpr; omega
  simp only [Int.toNat_natCast]
  (repeat (first | refine And.intro (by omega) ?_ | refine And.intro ⟨by omega, by omega⟩ ?_))
  refine And.intro trivial (Spec.mono (l07Legs_s p n U T Z C S _ hpr hp2 hV (fun j hj => hv _ (by omega)) hz) ?_)
  rintro _ _ ⟨id, k2, c2, A2, hR2, hk2, rfl, hb⟩
  exact .inr (.inl ⟨rfl, _, k2, c2, A2, fun h => Bool.noConfusion h, rfl, hR2, hk2, back_new _ _ hb⟩)
end
end Go.Proofs.Ytjanlnngeklhoaa

/- LegsOf: the law. -/
set_option linter.unusedVariables false
set_option linter.unusedSimpArgs false
set_option linter.unusedSectionVars false
set_option maxRecDepth 100000
set_option maxHeartbeats 8000000
namespace Go.Proofs.Ytjanlnngeklhoaa
open M

theorem readVC_ex {T : Tab} {s : Slots} {m : Mem} {x : Operand} {i : Nat} {v w : SV} {Kv : SV → Prop} (hx : ev s x = some v) (hw : tupleAt v i = some w) (hk : Kv w) : readVC T (.extract x i) s m Kv := by
  simp only [readVC, hx, hw]
  exact hk
theorem lawLegs_c (p n : Int) (U T Z C S : Nat → Int) (hU : isU8 8 U) (hT : isU8 512 T) (hZ : isU8 8 Z) (hC : isU8 512 C) (hS : isU8 64 S) (v : Nat → Int) (hv : isU8 8 v) : Spec Try.prog 4 [hopV p n U T Z C S, .ints .u8 8 v] [] (Ret (.bool true)) := by
  refine Spec.ret rfl (Spec.of_vc tabOK tabEq Try.func4 rfl (by kernel_rfl) rfl rfl ?_)
  have hp1 : legCode p n U T Z C S v = 0 → 1 < (p.toNat : Int) := fun h0 => by
    by_cases hc : hopOne p n U T Z C S v = true
    · have := primeB_rngL (hopOne_prime p n U T Z C S hU hT hZ hC hS v hv hc)
      omega
    · unfold legCode at h0; rw [if_neg hc] at h0; omega
  refine Exists.intro 10509 (And.intro (by kernel_rfl) ?_)
  refine readsAt_step rfl (by rfl) ?_
  refine readVC_loadF (v := hopV p n U T Z C S) (z := hopV p n U T Z C S) rfl rfl rfl rfl (fun _ h => h) ?_
  refine readsAt_step rfl (by rfl) ?_
  refine readVC_loadR (l := 8) rfl rfl rfl (by omega) ?_
  refine readsAt_nil ?_
  refine restVC_val (i := 1) rfl (by rfl) rfl rfl rfl rfl rfl rfl (fun _ => rfl) (fun _ => rfl) (toHopf_s p n U T Z C S) ?_
  refine restVC_val (i := 3) rfl (by rfl) rfl rfl rfl rfl rfl rfl (fun _ => rfl) (fun _ => rfl) (toVector_s _) ?_
  refine restVC_call (i := 4) rfl (by rfl) rfl rfl rfl rfl rfl ?_
  refine And.intro trivial (Spec.mono (specLegs_s p n U T Z C S hU hT hZ hC hS v hv) ?_)
  rintro r m (⟨he, rfl, rfl⟩ | ⟨he, k0, c0, A0, _, rfl, hR0, rfl⟩ | ⟨_, hf, _⟩) <;> first | (refine And.intro (by repeat (first | exact trivial | refine And.intro rfl ?_)) ?_; refine restVC_nil ?_; refine readsAt_step rfl (by rfl) ?_; refine readVC_mv rfl ?_; refine readsAt_step rfl (by rfl) ?_; refine readVC_ex rfl rfl ?_; refine readsAt_step rfl (by rfl) ?_; refine readVC_ex rfl rfl ?_; refine readsAt_step rfl (by rfl) ?_; refine readVC_as rfl ?_; refine readsAt_nil ?_) | skip
  · -- an error on both sides
    change opsVC _ _ _ _ _ _ [some (hopV p n U T Z C S, 1106), some (.ints .u8 8 v, 8)] _
    refine Exists.intro 10509 (And.intro (by kernel_rfl) ?_)
    refine readsAt_step rfl (by rfl) ?_
    refine readVC_loadF (v := hopV p n U T Z C S) (z := hopV p n U T Z C S) rfl rfl rfl rfl (fun _ h => h) ?_
    refine readsAt_step rfl (by rfl) ?_
    refine readVC_loadR (l := 8) rfl rfl rfl (by omega) ?_
    refine readsAt_nil ?_
    refine restVC_val (i := 1) rfl (by rfl) rfl rfl rfl rfl rfl rfl (fun _ => rfl) (fun _ => rfl) (toHopf_s p n U T Z C S) ?_
    refine restVC_val (i := 3) rfl (by rfl) rfl rfl rfl rfl rfl rfl (fun _ => rfl) (fun _ => rfl) (toVector_s _) ?_
    refine restVC_call (i := 4) rfl (by rfl) rfl rfl rfl rfl rfl ?_
    refine And.intro trivial (Spec.mono (implLegs_s p n U T Z C S hU hT hZ hC hS v hv) ?_)
    rintro r m (⟨_, rfl, rfl⟩ | ⟨he', _⟩ | ⟨he', _⟩) <;> first | (refine And.intro (by repeat (first | exact trivial | refine And.intro rfl ?_)) ?_; refine restVC_nil ?_; refine readsAt_step rfl (by rfl) ?_; refine readVC_mv rfl ?_; refine readsAt_step rfl (by rfl) ?_; refine readVC_ex rfl rfl ?_; refine readsAt_step rfl (by rfl) ?_; refine readVC_ex rfl rfl ?_; refine readsAt_step rfl (by rfl) ?_; refine readVC_as rfl ?_; refine readsAt_nil ?_) | skip
    rotate_left
    · exact absurd he' he
    · exact absurd he' he
    refine And.intro trivial (Spec.mono (eqVecsNil_s) ?_)
    rintro r m ⟨rfl, rfl⟩
    refine ifVC_false (by simp) ?_
    refine And.intro trivial (Spec.mono (markVecsNil_s 101) ?_)
    rintro r m ⟨rfl, rfl⟩
    refine And.intro trivial (Spec.mono (heldVecsNil_s 101) ?_)
    rintro r m ⟨rfl, rfl⟩
    change opsVC _ _ _ _ _ _ [some (hopV p n U T Z C S, 1106), some (.ints .u8 8 v, 8)] _
    refine Exists.intro 10509 (And.intro (by kernel_rfl) ?_)
    refine readsAt_step rfl (by rfl) ?_
    refine readVC_loadF (v := hopV p n U T Z C S) (z := hopV p n U T Z C S) rfl rfl rfl rfl (fun _ h => h) ?_
    refine readsAt_step rfl (by rfl) ?_
    refine readVC_loadR (l := 8) rfl rfl rfl (by omega) ?_
    refine readsAt_nil ?_
    refine restVC_val (i := 1) rfl (by rfl) rfl rfl rfl rfl rfl rfl (fun _ => rfl) (fun _ => rfl) (toHopf_s p n U T Z C S) ?_
    refine restVC_val (i := 3) rfl (by rfl) rfl rfl rfl rfl rfl rfl (fun _ => rfl) (fun _ => rfl) (toVector_s _) ?_
    refine restVC_call (i := 4) rfl (by rfl) rfl rfl rfl rfl rfl ?_
    refine And.intro trivial (Spec.mono (implLegs_s p n U T Z C S hU hT hZ hC hS v hv) ?_)
    rintro r m (⟨_, rfl, rfl⟩ | ⟨he', _⟩ | ⟨he', _⟩) <;> first | (refine And.intro (by repeat (first | exact trivial | refine And.intro rfl ?_)) ?_; refine restVC_nil ?_; refine readsAt_step rfl (by rfl) ?_; refine readVC_mv rfl ?_; refine readsAt_step rfl (by rfl) ?_; refine readVC_ex rfl rfl ?_; refine readsAt_step rfl (by rfl) ?_; refine readVC_ex rfl rfl ?_; refine readsAt_step rfl (by rfl) ?_; refine readVC_as rfl ?_; refine readsAt_nil ?_) | skip
    rotate_left
    · exact absurd he' he
    · exact absurd he' he
    refine And.intro trivial (Spec.mono (eqVecsNil_s) ?_)
    rintro r m ⟨rfl, rfl⟩
    refine ifVC_false (by simp) ?_
    refine And.intro trivial (Spec.mono (heldVecsNil_s 101) ?_)
    rintro r m ⟨rfl, rfl⟩
    exact boolEq rfl
  · -- a list
    have hk0 : k0 ≤ 8 := red_k hR0
    have uniq := fun k A (h : RedL _ _ k A) => redL_uniq (hp1 he) (Sp.space (by have := hp1 he; omega)) hR0 h
    change opsVC _ _ _ _ _ _ [some (hopV p n U T Z C S, 1106), some (.ints .u8 8 v, 8), some (.ints .u8 (k0 * 8) A0, c0 * 8)] _
    refine Exists.intro 10509 (And.intro (by kernel_rfl) ?_)
    refine readsAt_step rfl (by rfl) ?_
    refine readVC_loadF (v := hopV p n U T Z C S) (z := hopV p n U T Z C S) rfl rfl rfl rfl (fun _ h => h) ?_
    refine readsAt_step rfl (by rfl) ?_
    refine readVC_loadR (l := 8) rfl rfl rfl (by omega) ?_
    refine readsAt_nil ?_
    refine restVC_val (i := 1) rfl (by rfl) rfl rfl rfl rfl rfl rfl (fun _ => rfl) (fun _ => rfl) (toHopf_s p n U T Z C S) ?_
    refine restVC_val (i := 3) rfl (by rfl) rfl rfl rfl rfl rfl rfl (fun _ => rfl) (fun _ => rfl) (toVector_s _) ?_
    refine restVC_call (i := 4) rfl (by rfl) rfl rfl rfl rfl rfl ?_
    refine And.intro trivial (Spec.mono (implLegs_s p n U T Z C S hU hT hZ hC hS v hv) ?_)
    rintro r m (⟨he', _⟩ | ⟨_, k1, c1, A1, hk1, rfl, hR1, rfl⟩ | ⟨_, hf, _⟩) <;> first | (refine And.intro (by repeat (first | exact trivial | refine And.intro rfl ?_)) ?_; refine restVC_nil ?_; refine readsAt_step rfl (by rfl) ?_; refine readVC_mv rfl ?_; refine readsAt_step rfl (by rfl) ?_; refine readVC_ex rfl rfl ?_; refine readsAt_step rfl (by rfl) ?_; refine readVC_ex rfl rfl ?_; refine readsAt_step rfl (by rfl) ?_; refine readVC_as rfl ?_; refine readsAt_nil ?_) | skip
    · exact absurd he he'
    rotate_left
    · cases hf
    obtain ⟨hz, hA⟩ := uniq _ _ hR1
    subst hz
    change opsVC _ _ _ _ _ _ [some (hopV p n U T Z C S, 1106), some (.ints .u8 8 v, 8), some (.ints .u8 (k0 * 8) A0, c0 * 8), some (.ints .u8 (k0 * 8) A1, c1 * 8)] _
    refine And.intro (And.intro rfl (And.intro rfl trivial)) (Spec.mono (eqVecs_s k0 c1 c0 A1 A0 (by omega) (fun j hj => (hA j hj).symm)) ?_)
    rintro r m ⟨rfl, rfl⟩
    change opsVC _ _ _ _ _ _ [some (hopV p n U T Z C S, 1106), some (.ints .u8 8 v, 8), some (.ints .u8 (k0 * 8) A0, c0 * 8), some (.ints .u8 (k0 * 8) A1, c1 * 8)] _
    refine And.intro (And.intro rfl trivial) (Spec.mono (markVecs_s k0 c1 101 A1 (by omega) (by omega)) ?_)
    rintro r m ⟨rfl, rfl⟩
    change opsVC _ _ _ _ _ _ [some (hopV p n U T Z C S, 1106), some (.ints .u8 8 v, 8), some (.ints .u8 (k0 * 8) A0, c0 * 8), some (.ints .u8 (k0 * 8) (markF 101), c1 * 8)] _
    refine And.intro (And.intro rfl trivial) (Spec.mono (heldVecs_s k0 c1 101 (by omega) (by omega)) ?_)
    rintro r m ⟨rfl, rfl⟩
    change opsVC _ _ _ _ _ _ [some (hopV p n U T Z C S, 1106), some (.ints .u8 8 v, 8), some (.ints .u8 (k0 * 8) A0, c0 * 8), some (.ints .u8 (k0 * 8) (markF 101), c1 * 8)] _
    refine ifVC_false (by simp) ?_
    refine Exists.intro 10509 (And.intro (by kernel_rfl) ?_)
    refine readsAt_step rfl (by rfl) ?_
    refine readVC_loadF (v := hopV p n U T Z C S) (z := hopV p n U T Z C S) rfl rfl rfl rfl (fun _ h => h) ?_
    refine readsAt_step rfl (by rfl) ?_
    refine readVC_loadR (l := 8) rfl rfl rfl (by omega) ?_
    refine readsAt_nil ?_
    refine restVC_val (i := 1) rfl (by rfl) rfl rfl rfl rfl rfl rfl (fun _ => rfl) (fun _ => rfl) (toHopf_s p n U T Z C S) ?_
    refine restVC_val (i := 3) rfl (by rfl) rfl rfl rfl rfl rfl rfl (fun _ => rfl) (fun _ => rfl) (toVector_s _) ?_
    refine restVC_call (i := 4) rfl (by rfl) rfl rfl rfl rfl rfl ?_
    refine And.intro trivial (Spec.mono (implLegs_s p n U T Z C S hU hT hZ hC hS v hv) ?_)
    rintro r m (⟨he', _⟩ | ⟨_, k2, c2, A2, hk2, rfl, hR2, rfl⟩ | ⟨_, hf, _⟩) <;> first | (refine And.intro (by repeat (first | exact trivial | refine And.intro rfl ?_)) ?_; refine restVC_nil ?_; refine readsAt_step rfl (by rfl) ?_; refine readVC_mv rfl ?_; refine readsAt_step rfl (by rfl) ?_; refine readVC_ex rfl rfl ?_; refine readsAt_step rfl (by rfl) ?_; refine readVC_ex rfl rfl ?_; refine readsAt_step rfl (by rfl) ?_; refine readVC_as rfl ?_; refine readsAt_nil ?_) | skip
    · exact absurd he he'
    rotate_left
    · cases hf
    obtain ⟨hz, hA2⟩ := uniq _ _ hR2
    subst hz
    change opsVC _ _ _ _ _ _ [some (hopV p n U T Z C S, 1106), some (.ints .u8 8 v, 8), some (.ints .u8 (k0 * 8) A0, c0 * 8), some (.ints .u8 (k0 * 8) (markF 101), c1 * 8), some (.ints .u8 (k0 * 8) A2, c2 * 8)] _
    refine And.intro (And.intro rfl (And.intro rfl trivial)) (Spec.mono (eqVecs_s k0 c2 c0 A2 A0 (by omega) (fun j hj => (hA2 j hj).symm)) ?_)
    rintro r m ⟨rfl, rfl⟩
    change opsVC _ _ _ _ _ _ [some (hopV p n U T Z C S, 1106), some (.ints .u8 8 v, 8), some (.ints .u8 (k0 * 8) A0, c0 * 8), some (.ints .u8 (k0 * 8) (markF 101), c1 * 8), some (.ints .u8 (k0 * 8) A2, c2 * 8)] _
    refine And.intro (And.intro rfl trivial) (Spec.mono (heldVecs_s k0 c1 101 (by omega) (by omega)) ?_)
    rintro r m ⟨rfl, rfl⟩
    change opsVC _ _ _ _ _ _ [some (hopV p n U T Z C S, 1106), some (.ints .u8 8 v, 8), some (.ints .u8 (k0 * 8) A0, c0 * 8), some (.ints .u8 (k0 * 8) (markF 101), c1 * 8), some (.ints .u8 (k0 * 8) A2, c2 * 8)] _
    refine ifVC_false (by simp) ?_
    exact boolEq rfl
  · cases hf
end Go.Proofs.Ytjanlnngeklhoaa

/- Augmentation ideals, the program's and the model's. -/
set_option linter.unusedVariables false
set_option linter.unusedSimpArgs false
set_option linter.unusedSectionVars false
set_option maxRecDepth 100000
set_option maxHeartbeats 4000000
namespace Go.Proofs.Ytjanlnngeklhoaa
open M

theorem primeB_rngG {p : Int} (h : primeB p = true) : 2 ≤ p ∧ p ≤ 31 := by
  by_cases e : p < 2 ∨ 31 < p
  · rw [primeB_out e] at h; cases h
  · omega
theorem hop_cnt {p : Int} {n : Nat} {U T Z C S : Nat → Int} (h : hopB p n U T Z C S = true) : cnt p Z U = 1 := by
  unfold hopB at h
  simp only [Bool.and_eq_true, beq_iff_eq, Int.toNat_natCast] at h
  obtain ⟨_, h⟩ := h
  unfold failN at h
  by_cases c5 : (all2 n (ax5 p T Z) && (cnt p Z U == 1)) = false
  · exfalso
    rw [if_pos c5] at h
    split at h
    · cases h
    split at h
    · cases h
    split at h
    · cases h
    split at h
    · cases h
    · cases h
  · have c5 : (all2 n (ax5 p T Z) && (cnt p Z U == 1)) = true := by simpa using c5
    simp only [Bool.and_eq_true, beq_iff_eq] at c5
    exact c5.2
theorem hop_prime {p n : Int} {U T Z C S : Nat → Int} (h : hopB p n U T Z C S = true) : primeB p = true := by
  unfold hopB at h
  simp only [Bool.and_eq_true] at h
  have := h.1
  unfold hshB at this
  simp only [Bool.and_eq_true] at this
  have hf := shape_field this.1
  unfold fieldB at hf
  simp only [Bool.and_eq_true] at hf
  exact hf.1

/-! ### the space -/
theorem cnt_sum (p : Int) (Z x : Nat → Int) : cnt p Z x = sumN 8 (fun i => x i * Z i) % p := rfl
theorem cnt_unit {p : Int} {Z : Nat → Int} {i : Nat} (hi : i < 8) (hZ : 0 ≤ Z i ∧ Z i < p) : cnt p Z (unitV i) = Z i := by
  rw [cnt_sum, sumN_unit, if_pos hi, Int.emod_eq_of_lt hZ.1 hZ.2]
theorem cnt_lin (p c : Int) (Z x y : Nat → Int) : cnt p Z (fun j => (x j + c * y j) % p) = (cnt p Z x + c * cnt p Z y) % p := by
  rw [cnt_sum, sumN_lin, cnt_sum, cnt_sum, mod_l, mod_in]
/-- a basis element less its counit times the unit -/
def augRow (p : Int) (U Z : Nat → Int) (i : Nat) : Nat → Int := addM p (unitV i) (p - Z i) U
def augF (n : Nat) (Z : Nat → Int) : Nat → Int := fun q => if q % 8 = 0 ∧ q / 8 < n then Z (q / 8) else 0
theorem aug_ap {p n : Nat} {Z x : Nat → Int} (hx : VecP p n x) (j : Nat) (hj : j < 8) : apF p (augF n Z) x j = if j = 0 then cnt p Z x else 0 := by
  rw [apF_sum]
  by_cases e : j = 0
  · subst e
    rw [if_pos rfl, cnt_sum]
    refine congrArg (· % (p : Int)) (sumN_congr 8 fun i hi => ?_)
    unfold augF
    rw [show (i * 8 + 0) / 8 = i by omega]
    by_cases e2 : i < n
    · rw [if_pos ⟨by omega, e2⟩]
    · rw [hx.out i (by omega) hi, Int.zero_mul, Int.zero_mul]
  · rw [if_neg e, sumN_none 8 fun i hi => by unfold augF; rw [if_neg (by omega), Int.mul_zero], Int.zero_emod]
theorem aug_key {p : Int} (x y cx cy c U q1 q2 q3 q4 : Int) : x + c * y - p * q1 + (p - (cx + c * cy - p * q2)) * U = (x + (p - cx) * U - p * q3) + c * (y + (p - cy) * U - p * q4) + p * (-q1 + q2 * U + q3 - c * U + c * q4) := by grind
theorem aug_iff {p n : Nat} {U T Z C S : Nat → Int} (hp : 1 < p) (hV : HV p n U T Z C S) (hc : cnt p Z U = 1) (v : Nat → Int) : Sp p 8 n (augRow p U Z) v ↔ Ker p n (augF n Z) v := by
  have hn := hV.a.hn
  have hZ := fun j (hj : j < 8) => hV.c.ult j hj
  have hrow : ∀ i, ∀ j, j < 8 → 0 ≤ augRow p U Z i j ∧ augRow p U Z i j < p := fun i j _ => mod_rng (by omega) _
  have hve : ∀ i, i < n → VecP p n (augRow p U Z i) := fun i hi => ⟨fun j hj => hrow i j hj, fun j h1 h2 => by
    unfold augRow addM unitV
    rw [if_neg (by omega), hV.a.uzero j h2 h1]; simp⟩
  constructor
  · refine Sp.in (ker_space (by omega)) fun i hi => ⟨hve i hi, fun j hj => ?_⟩
    rw [aug_ap (hve i hi) j hj]
    by_cases e : j = 0
    · rw [if_pos e]
      show cnt p Z (fun j => (unitV i j + ((p : Int) - Z i) * U j) % p) = 0
      rw [cnt_lin, hc, cnt_unit (by omega) (hZ i (by omega)), Int.mul_one, show Z i + ((p : Int) - Z i) = p by omega, Int.emod_self]
    · rw [if_neg e]
  · rintro ⟨hx, h0⟩
    have h00 : cnt p Z v = 0 := by have := h0 0 (by omega); rwa [aug_ap hx 0 (by omega), if_pos rfl] at this
    have key : Sp p 8 n (augRow p U Z) fun j => (v j + ((p : Int) - cnt p Z v) * U j) % p := by
      refine VecP.ind (by omega) hn (R := fun x => Sp p 8 n (augRow p U Z) fun j => (x j + ((p : Int) - cnt p Z x) * U j) % p) ?_ (fun x y h e => ?_) (fun k hk => ?_) (fun x y c h1 h2 => ?_) hx
      · refine .zero _ fun j hj => ?_
        have e : cnt p Z (fun _ => 0) = 0 := by rw [cnt_sum, sumN_none 8 fun i _ => Int.zero_mul _, Int.zero_emod]
        show (0 + ((p : Int) - cnt p Z (fun _ => 0)) * U j) % p = 0
        rw [e, Int.sub_zero, Int.zero_add, Int.mul_emod_right]
      · have e2 : cnt p Z y = cnt p Z x := by rw [cnt_sum, cnt_sum, sumN_congr 8 fun i hi => by rw [e i hi]]
        refine h.ext fun j hj => ?_
        rw [e j hj, e2]
      · have e : cnt p Z (unitV k) = Z k := cnt_unit (by omega) (hZ k (by omega))
        refine (Sp.row hk fun j hj => hrow k j hj).ext fun j hj => ?_
        rw [e]; rfl
      · refine (h1.addc (by omega) h2 c).ext fun j hj => ?_
        have m1 := Int.emod_def (x j + c * y j) p
        have m2 := Int.emod_def (cnt p Z x + c * cnt p Z y) p
        have m3 := Int.emod_def (x j + ((p : Int) - cnt p Z x) * U j) p
        have m4 := Int.emod_def (y j + ((p : Int) - cnt p Z y) * U j) p
        show ((x j + c * y j) % p + ((p : Int) - cnt p Z (fun j => (x j + c * y j) % p)) * U j) % p = ((x j + ((p : Int) - cnt p Z x) * U j) % p + c * ((y j + ((p : Int) - cnt p Z y) * U j) % p)) % p
        rw [cnt_lin, m1, m2, m3, m4, aug_key, Int.add_mul_emod_self_left]
    refine key.ext fun j hj => ?_
    rw [h00, Int.sub_zero, Int.add_mul_emod_self_left]
    have := hx.rng j hj
    rw [Int.emod_eq_of_lt this.1 this.2]

/-! ### the program -/
theorem withoutCounits_s (p : Int) (n : Nat) (U T Z C S F : Nat → Int) (hV : HV p n U T Z C S) (hF : ∀ q, q < 64 → 0 ≤ F q ∧ F q < p) :
    Spec Try.prog 30 [hopV p n U T Z C S, .sl 0 0 n n] [some (.ints .u8 64 F, 64)] (fun r m => ∃ G, r = .sl 2 0 n n ∧ m = [some (.ints .u8 64 F, 64), some (hopV p n U T Z C S, 1106), some (.ints .u8 (n * 8) G, n * 8)] ∧ ∀ i, i < n → ∀ j, j < 8 → G (i * 8 + j) = addM p (partF F 8 i) (p - cnt p Z (partF F 8 i)) U j) := by
  have hn := hV.a.hn
  have hp := hV.a.hp
  refine (Spec.of_vc tabOK tabEq Try.func30 rfl (by kernel_rfl) rfl rfl ?_)
  refine And.intro ⟨by omega, by omega, by omega, by omega⟩ ?_
  refine LoopVC.of (fun x : Nat × (Nat → Int) => x.1 ≤ n ∧ ∀ i, i < x.1 → ∀ j, j < 8 → x.2 (i * 8 + j) = addM p (partF F 8 i) (p - cnt p Z (partF F 8 i)) U j) (fun x => [(2, .ptr 1 [] 0 0), (5, .sl 2 0 n n), (11, .sl 0 0 n n), (12, .int .i64 n), (13, .int .i64 x.1)])
    (fun x => [some (.ints .u8 64 F, 64), some (hopV p n U T Z C S, 1106), some (.ints .u8 (n * 8) x.2, n * 8)]) (fun x => n - x.1) (0, fun _ => 0) ⟨Nat.zero_le _, fun i hi => absurd hi (Nat.not_lt_zero _)⟩ ?_ ?_ ?_
  · exact (And.intro rfl (And.intro rfl (And.intro rfl (And.intro rfl (And.intro rfl (trivial))))))
  · exact And.intro (And.intro (rowEq fun _ _ => rfl) rfl) (And.intro (And.intro (hopR p n U T Z C S) rfl) (And.intro (And.intro (rowEq fun _ _ => rfl) rfl) trivial))
  · rintro ⟨i, G⟩ ⟨hi, hG⟩
    dsimp only at hi hG
    refine ifVC_split (fun h => ?_) (fun h => ?_)
    · have hin : i < n := by have := of_decide_eq_true h; omega
      have hix : (i : Int).toNat = i := by omega
      have hFi : ∀ q, q < 8 → 0 ≤ partF F 8 i q ∧ partF F 8 i q < p := fun q hq => hF _ (by omega)
      have hcn : 0 ≤ cnt p Z (partF F 8 i) ∧ cnt p Z (partF F 8 i) < p := modP hp
      (repeat (first | refine And.intro (by omega) ?_ | refine And.intro ⟨by omega, by omega⟩ ?_))
      have hrow : ∀ q, q < 8 → updR (fun _ => 0) 0 8 (fun j => F (j + ((i : Int).toNat * 8 + 0))) (q + 0) = partF F 8 i q := fun q hq => by rw [hix]; simp [updR, hq, partF]
      refine Exists.intro 16 (And.intro (by kernel_rfl) ?_)
      (repeat (first | refine And.intro (by omega) ?_ | refine And.intro ⟨by omega, by omega⟩ ?_))
      refine Exists.intro (algV p n Z C) (And.intro (And.intro rfl (And.intro rfl (Spec.mono (coalgebraOf_s p n U T Z C S) fun r m h => h.1))) ?_)
      (repeat (first | refine And.intro (by omega) ?_ | refine And.intro ⟨by omega, by omega⟩ ?_))
      refine Exists.intro (.int .i64 (cnt p Z (partF F 8 i))) (And.intro (And.intro rfl (And.intro rfl (Spec.mono (counit_s p n Z C _ hp hV.hZ (fun q hq => by rw [hrow q hq]; exact ⟨(hFi q hq).1, by have := hFi q hq; omega⟩)) ?_))) ?_)
      · rintro r m ⟨rfl, _⟩
        refine congrArg (SV.int .i64) ?_
        rw [cnt_sum, cnt_sum]
        exact congrArg (· % p) (sumN_congr 8 fun q hq => by rw [hrow q hq])
      have hw : IntKind.i64.wrap (p - cnt p Z (partF F 8 i)) = p - cnt p Z (partF F 8 i) := wrapI (by omega)
      (repeat (first | refine And.intro (by omega) ?_ | refine And.intro ⟨by omega, by omega⟩ ?_))
      refine Exists.intro _ (And.intro (And.intro rfl (And.intro rfl (Spec.mono (addMultiple_s p (IntKind.i64.wrap (p - cnt p Z (partF F 8 i))) _ _ hp (by rw [hw]; omega) (fun q hq => ?_) (fun q hq => hV.hU _ (by omega))) fun r m h => h.1))) ?_)
      · show 0 ≤ updR (fun _ => 0) 0 8 (fun j => F (j + ((i : Int).toNat * 8 + 0))) (q + 0) ∧ updR (fun _ => 0) 0 8 (fun j => F (j + ((i : Int).toNat * 8 + 0))) (q + 0) < p
        rw [hrow q hq]; exact hFi q hq
      (repeat (first | refine And.intro (by omega) ?_ | refine And.intro ⟨by omega, by omega⟩ ?_))
      refine Exists.intro (i + 1, updR G (i * 8) 8 (addM p (fun j => updR (fun _ => 0) 0 8 (fun j => F (j + ((i : Int).toNat * 8 + 0))) (j + 0)) (IntKind.i64.wrap (p - cnt p Z (partF F 8 i))) U)) (And.intro ⟨hin, fun l hl j hj => ?_⟩ (And.intro (show n - (i + 1) < n - i by omega) (And.intro (And.intro rfl (And.intro rfl (And.intro rfl (And.intro rfl (And.intro (slotI (wrapS (by omega))) trivial))))) ?_)))
      · have hl : l < i + 1 := hl
        show updR G (i * 8) 8 _ (l * 8 + j) = _
        unfold updR
        by_cases e : l = i
        · subst e
          rw [if_pos (by omega), show l * 8 + j - l * 8 = j by omega]
          unfold addM
          rw [hw]
          have := hrow j hj
          unfold updR at this
          dsimp only
          rw [this]
        · rw [if_neg (by omega)]; exact hG l (by omega) j hj
      · exact And.intro (And.intro (rowEq fun _ _ => rfl) rfl) (And.intro (And.intro (hopR p n U T Z C S) rfl) (And.intro (And.intro (rowEq fun q hq => by rw [hix]; rfl) rfl) trivial))
    · have hin : i = n := by have := of_decide_eq_false h; omega
      subst hin
      exact ⟨G, rfl, rfl, hG⟩
/-! ### the model -/
theorem l07Augmentation_s (p n : Nat) (U T Z C S : Nat → Int) (hp : primeB (p : Int) = true) (hp2 : 2 ≤ p ∧ p ≤ 31) (hV : HV p n U T Z C S) :
    Spec Try.prog 28 [hopV p n U T Z C S] [] (fun r m => ∃ id k c A, RedL p (Ker p n (augF n Z)) k A ∧ k ≤ c ∧ r = .sl id 0 k c ∧ blockOf m id = some (.ints .u8 (k * 8) A, c * 8)) := by
  have hn := hV.a.hn
  refine (Spec.of_vc tabOK tabEq Try.func28 rfl (by kernel_rfl) rfl rfl ?_)
  (repeat (first | refine And.intro (by omega) ?_ | refine And.intro ⟨by omega, by omega⟩ ?_))
  refine LoopVC.of (fun i : Nat => i ≤ n) (fun i => [(1, .ptr 0 [] 0 0), (3, .ptr 1 [] 0 0), (4, .int .i64 i)]) (fun i => [some (hopV p n U T Z C S, 1106), some (.ints .u8 64 (augF i Z), 64)]) (fun i => n - i) 0 (Nat.zero_le _) ?_ ?_ ?_
  · exact (And.intro rfl (And.intro rfl (And.intro rfl (trivial))))
  · refine And.intro (And.intro (hopR p n U T Z C S) rfl) (And.intro (And.intro (rowEq fun q hq => ?_) rfl) trivial)
    show updR _ 0 64 _ q = augF 0 Z q
    unfold updR augF
    rw [if_pos (by omega), if_neg (by omega)]
  · intro i hi
    refine ifVC_split (fun h => ?_) (fun h => ?_)
    · have hin : i < n := by have := of_decide_eq_true h; omega
      have hix : (i : Int).toNat = i := by omega
      refine Exists.intro 7 (And.intro (by kernel_rfl) ?_)
      (repeat (first | refine And.intro (by omega) ?_ | refine And.intro ⟨by omega, by omega⟩ ?_))
      refine Exists.intro (i + 1) (And.intro (by omega) (And.intro (by omega) (And.intro (And.intro rfl (And.intro rfl (And.intro (slotI (wrapS (by omega))) trivial))) ?_)))
      refine And.intro (And.intro (hopR p n U T Z C S) rfl) (And.intro (And.intro (rowEq fun q hq => ?_) rfl) trivial)
      show upd1 _ (0 * 1 + ((i : Int).toNat * 8 + 0)) (Z ((i : Int).toNat * 1 + 0)) q = augF (i + 1) Z q
      rw [hix]
      unfold upd1
      by_cases e : q = 0 * 1 + (i * 8 + 0)
      · rw [if_pos e]
        unfold augF
        rw [if_pos (by omega)]
        congr 1; omega
      · rw [if_neg e]
        unfold augF
        by_cases e2 : q % 8 = 0 ∧ q / 8 < i
        · rw [if_pos e2, if_pos ⟨e2.1, by omega⟩]
        · rw [if_neg e2, if_neg (by omega)]
    · have hin : i = n := by have := of_decide_eq_false h; omega
      subst hin
      (repeat (first | refine And.intro (by omega) ?_ | refine And.intro ⟨by omega, by omega⟩ ?_))
      refine And.intro trivial (Spec.mono (l01KernelR_s p i (augF i Z) hp hp2 hn (fun q hq => ?_)) ?_)
      · unfold augF
        split
        · exact hV.c.ult _ (by omega)
        · omega
      rintro _ _ ⟨k2, c2, A2, hR2, hc2, rfl, rfl⟩
      exact ⟨_, k2, c2, A2, hR2, hc2, rfl, rfl⟩
section
variable (p n : Int) (U T Z C S : Nat → Int) (hU : isU8 8 U) (hT : isU8 512 T) (hZ : isU8 8 Z) (hC : isU8 512 C) (hS : isU8 64 S)
include hU hT hZ hC hS
def augCode (p n : Int) (U T Z C S : Nat → Int) : Int := if hopB p n U T Z C S = true then 0 else 1
theorem implAug0_s : Spec Try.prog 17 [hopV p n U T Z C S] [] (ListQ false (augCode p n U T Z C S) p.toNat (Ker p.toNat n.toNat (augF n.toNat Z))) := by
  refine Spec.of_vc (tabOK.dir fun g => Nat.beq g 25) (tabEq.dir _) Try.func17 rfl (by kernel_rfl) rfl rfl ?_
  refine And.intro trivial (Spec.mono (isHopf_s p n U T Z C S hU hT hZ hC hS) ?_)
  rintro r m ⟨rfl, rfl⟩
  refine ifVC_split (fun hc => ?_) (fun hc => ?_)
  · have hc : hopB p n U T Z C S = false := by simpa using hc
    exact .inl ⟨by unfold augCode; rw [hc]; simp, by unfold augCode; rw [hc]; rfl⟩
  have hc : hopB p n U T Z C S = true := by simpa using hc
  have hcode : augCode p n U T Z C S = 0 := by unfold augCode; rw [if_pos hc]
  rw [hcode]
  have hpr := hop_prime hc
  obtain ⟨n, rfl, hV⟩ := hopB_valid hU hT hZ hC hS hc
  have hcnt := hop_cnt hc
  obtain ⟨p, rfl⟩ := Int.eq_ofNat_of_zero_le (show 0 ≤ p by have := hV.a.hp; omega)
  have hp2 : 2 ≤ p ∧ p ≤ 31 := by have := primeB_rngG hpr; omega
  have hn := hV.a.hn
  simp only [Int.toNat_natCast]
  have hI : ∀ q, q < 64 → 0 ≤ idF n q ∧ idF n q < p := fun q hq => by unfold idF; split <;> first | (unfold unitV; split <;> omega) | omega
  have hIr : ∀ i, i < n → ∀ j, j < 8 → partF (idF n) 8 i j = unitV i j := fun i hi j hj => by
    unfold partF idF
    rw [show (j + i * 8) / 8 = i by omega, show (j + i * 8) % 8 = j by omega, if_pos hi]
  change vc _ _ _ _ _ [some (hopV p n U T Z C S, 1106)] _
  refine vc_gen (q := 3) 11 [0, 1, 2, 3, 4, 6, 7] [5, 8, 9, 10] (by kernel_rfl) (by kernel_rfl) (by kernel_rfl) ?_
  refine readsAt_step rfl (by rfl) ?_
  refine readVC_fa rfl rfl rfl ?_
  refine readsAt_step rfl (by rfl) ?_
  refine readVC_loadF (v := .int .i64 p) (z := .int .i64 p) rfl rfl rfl rfl (fun _ h => h) ?_
  refine readsAt_step rfl (by rfl) ?_
  refine readVC_loadF (v := hopV p n U T Z C S) (z := hopV p n U T Z C S) rfl rfl rfl rfl (fun _ h => h) ?_
  refine readsAt_step rfl (by rfl) ?_
  refine readVC_fa rfl rfl rfl ?_
  refine readsAt_step rfl (by rfl) ?_
  refine readVC_loadF (v := .int .i64 n) (z := .int .i64 n) rfl rfl rfl rfl (fun _ h => h) ?_
  refine readsAt_step rfl (by rfl) ?_
  refine readVC_fa rfl rfl rfl ?_
  refine readsAt_step rfl (by rfl) ?_
  refine readVC_loadF (v := .int .i64 n) (z := .int .i64 n) rfl rfl rfl rfl (fun _ h => h) ?_
  refine readsAt_nil ?_
  refine restVC_val (i := 5) rfl (by rfl) rfl rfl rfl rfl rfl rfl (fun _ => rfl) (fun _ => rfl) (identity_s n hn) ?_
  refine restVC_call (i := 8) rfl (by rfl) rfl rfl rfl rfl rfl ?_
  refine callVC_new rfl (fun _ => rfl) (Spec.mono (rowsOf_s (idF n) n ⟨hV.n1, hn⟩) ?_)
  rintro _ _ ⟨rfl, rfl⟩
  refine ⟨n, n, .ints .u8 64 (idF n), 64, rfl, rfl, fun _ => rfl, (Plus.snoc _ _ _ _).preM, ?_⟩
  refine restVC_call (i := 9) rfl (by rfl) rfl rfl rfl rfl rfl ?_
  refine And.intro (And.intro rfl trivial) (Spec.mono (withoutCounits_s p n U T Z C S (idF n) hV hI) ?_)
  rintro _ _ ⟨G, rfl, rfl, hG⟩
  refine And.intro (by repeat (first | exact trivial | refine And.intro rfl ?_)) ?_
  change restVC _ _ _ _ _ _ _ _ [some (hopV p n U T Z C S, 1106), some (.ints .u8 64 (idF n), 64), some (hopV p n U T Z C S, 1106), some (.ints .u8 (n * 8) G, n * 8)] _
  have hG : ∀ i, i < n → ∀ j, j < 8 → G (i * 8 + j) = augRow p U Z i j := fun i hi j hj => by
    have e : cnt p Z (partF (idF n) 8 i) = Z i := by
      rw [cnt_sum, sumN_congr 8 fun q hq => by rw [hIr i hi q hq], ← cnt_sum]
      exact cnt_unit (by omega) (hV.c.ult i (by omega))
    rw [hG i hi j hj, e]
    unfold augRow addM
    rw [hIr i hi j hj]
  have hGr : ∀ q, q < n * 8 → 0 ≤ G q ∧ G q < p := fun q hq => by
    have := hG (q / 8) (by omega) (q % 8) (by omega)
    rw [show q / 8 * 8 + q % 8 = q by omega] at this
    rw [this]
    exact mod_rng (by omega) _
  refine restVC_dirR (i := 10) rfl (by rfl) rfl rfl rfl rfl rfl ?_
  refine Spec.mono (reduced_s _ n (n * 8) p 3 n (n * 8) G rfl (Nat.le_refl _) (fun id u d hb q hq => ?_) (by omega) hpr hp2 hGr) ?_
  · match id with
    | 0 => cases hb; simp [hopV, SV.ids] at hq
    | 1 => cases hb; cases hq
    | 2 => cases hb; simp [hopV, SV.ids] at hq
    | 3 => cases hb; cases hq
    | id + 4 => cases hb
  rintro r m' ⟨id, k, A, rfl, hk, hR, hb, hid, hl, hold, hclo⟩
  refine ⟨fun q hq h => by rw [hold q hq] at h; exact h, preM_of _ _ hl hold, ?_⟩
  refine restVC_nil ?_
  refine opsVC_as rfl rfl rfl ?_
  refine opsVC_as rfl rfl rfl ?_
  (repeat (first | (with_reducible refine vc_exit ?_) | (with_reducible refine vc_ret ?_) | (with_reducible refine vc_skip ?_) | (with_reducible refine thenQ_x ?_) | (with_reducible refine thenQ_r ?_) | (with_reducible refine thenQ_n ?_) | (with_reducible refine blockQ_x rfl ?_) | (with_reducible refine blockQ_y rfl ?_) | (with_reducible refine blockQ_n ?_) | (with_reducible refine blockQ_r ?_) | (with_reducible refine vc_seq ?_) | (with_reducible refine vc_region ?_) | (with_reducible refine vc_block ?_) | (with_reducible refine vc_scope ?_) | (with_reducible refine opsVC_nil ?_)))
  have hR : RedL p (Ker p n (augF n Z)) k A := hR.of_iff fun x => (Sp.congr (by omega) (fun l hl j hj => hG l hl j hj) (fun l hl j hj => hGr _ (by omega))).trans (aug_iff (by omega) hV hcnt x)
  exact .inr (.inl ⟨rfl, id, k, k, A, fun h => Bool.noConfusion h, rfl, hR, Nat.le_refl _, hb⟩)
theorem implAug_s : Spec Try.prog 17 [hopV p n U T Z C S] [] (ListR false (augCode p n U T Z C S) p.toNat (Ker p.toNat n.toNat (augF n.toNat Z))) := ListQ.one (implAug0_s p n U T Z C S hU hT hZ hC hS)

theorem specAug_s : Spec Try.prog 16 [hopV p n U T Z C S] [] (ListR false (augCode p n U T Z C S) p.toNat (Ker p.toNat n.toNat (augF n.toNat Z))) := by
  refine ListQ.one (Spec.of_vc tabOK tabEq Try.func16 rfl (by kernel_rfl) rfl rfl ?_)
  refine And.intro trivial (Spec.mono (l03Is_s p n U T Z C S hU hT hZ hC hS) ?_)
  rintro r m ⟨rfl, rfl⟩
  refine ifVC_split (fun hc => ?_) (fun hc => ?_)
  · have hc : hopB p n U T Z C S = false := by simpa using hc
    exact .inl ⟨by unfold augCode; rw [hc]; simp, by unfold augCode; rw [hc]; rfl⟩
  have hc : hopB p n U T Z C S = true := by simpa using hc
  have hcode : augCode p n U T Z C S = 0 := by unfold augCode; rw [if_pos hc]
  rw [hcode]
  have hpr := hop_prime hc
  obtain ⟨n, rfl, hV⟩ := hopB_valid hU hT hZ hC hS hc
  obtain ⟨p, rfl⟩ := Int.eq_ofNat_of_zero_le (show 0 ≤ p by have := hV.a.hp; omega)
  have hp2 : 2 ≤ p ∧ p ≤ 31 := by have := primeB_rngG hpr; omega
  simp only [Int.toNat_natCast]
  refine And.intro trivial (Spec.mono (l07Augmentation_s p n U T Z C S hpr hp2 hV) ?_)
  rintro _ _ ⟨id, k2, c2, A2, hR2, hk2, rfl, hb⟩
  exact .inr (.inl ⟨rfl, _, k2, c2, A2, fun h => Bool.noConfusion h, rfl, hR2, hk2, back_new _ _ hb⟩)
end
end Go.Proofs.Ytjanlnngeklhoaa

/- AugmentationIdeal: the law. -/
set_option linter.unusedVariables false
set_option linter.unusedSimpArgs false
set_option linter.unusedSectionVars false
set_option maxRecDepth 100000
set_option maxHeartbeats 8000000
namespace Go.Proofs.Ytjanlnngeklhoaa
open M

theorem lawAug_c (p n : Int) (U T Z C S : Nat → Int) (hU : isU8 8 U) (hT : isU8 512 T) (hZ : isU8 8 Z) (hC : isU8 512 C) (hS : isU8 64 S) : Spec Try.prog 5 [hopV p n U T Z C S] [] (Ret (.bool true)) := by
  refine Spec.ret rfl (Spec.of_vc tabOK tabEq Try.func5 rfl (by kernel_rfl) rfl rfl ?_)
  have hp1 : augCode p n U T Z C S = 0 → 1 < (p.toNat : Int) := fun h0 => by
    by_cases hc : hopB p n U T Z C S = true
    · have := primeB_rngG (hop_prime hc)
      omega
    · unfold augCode at h0; rw [if_neg hc] at h0; omega
  refine And.intro trivial (Spec.mono (toHopf_s p n U T Z C S) ?_)
  rintro r m ⟨rfl, rfl⟩
  change opsVC _ _ _ _ _ _ [some (hopV p n U T Z C S, 1106)] _
  refine And.intro trivial (Spec.mono (specAug_s p n U T Z C S hU hT hZ hC hS) ?_)
  rintro r m (⟨he, rfl, rfl⟩ | ⟨he, k0, c0, A0, _, rfl, hR0, rfl⟩ | ⟨_, hf, _⟩)
  · -- an error on both sides
    refine And.intro trivial (Spec.mono (toHopf_s p n U T Z C S) ?_)
    rintro r m ⟨rfl, rfl⟩
    change opsVC _ _ _ _ _ _ [some (hopV p n U T Z C S, 1106)] _
    refine And.intro trivial (Spec.mono (implAug_s p n U T Z C S hU hT hZ hC hS) ?_)
    rintro r m (⟨_, rfl, rfl⟩ | ⟨he', _⟩ | ⟨he', _⟩)
    rotate_left
    · exact absurd he' he
    · exact absurd he' he
    refine And.intro trivial (Spec.mono (eqVecsNil_s) ?_)
    rintro r m ⟨rfl, rfl⟩
    refine ifVC_false (by simp) ?_
    refine And.intro trivial (Spec.mono (markVecsNil_s 101) ?_)
    rintro r m ⟨rfl, rfl⟩
    refine And.intro trivial (Spec.mono (heldVecsNil_s 101) ?_)
    rintro r m ⟨rfl, rfl⟩
    refine And.intro trivial (Spec.mono (toHopf_s p n U T Z C S) ?_)
    rintro r m ⟨rfl, rfl⟩
    change opsVC _ _ _ _ _ _ [some (hopV p n U T Z C S, 1106)] _
    refine And.intro trivial (Spec.mono (implAug_s p n U T Z C S hU hT hZ hC hS) ?_)
    rintro r m (⟨_, rfl, rfl⟩ | ⟨he', _⟩ | ⟨he', _⟩)
    rotate_left
    · exact absurd he' he
    · exact absurd he' he
    refine And.intro trivial (Spec.mono (eqVecsNil_s) ?_)
    rintro r m ⟨rfl, rfl⟩
    refine ifVC_false (by simp) ?_
    refine And.intro trivial (Spec.mono (heldVecsNil_s 101) ?_)
    rintro r m ⟨rfl, rfl⟩
    exact boolEq rfl
  · -- a list
    have hk0 : k0 ≤ 8 := red_k hR0
    have uniq := fun k A (h : RedL _ _ k A) => redL_uniq (hp1 he) (ker_space (by have := hp1 he; omega)) hR0 h
    refine And.intro trivial (Spec.mono (toHopf_s p n U T Z C S) ?_)
    rintro r m ⟨rfl, rfl⟩
    change opsVC _ _ _ _ _ _ [some (hopV p n U T Z C S, 1106), some (.ints .u8 (k0 * 8) A0, c0 * 8)] _
    refine And.intro trivial (Spec.mono (implAug_s p n U T Z C S hU hT hZ hC hS) ?_)
    rintro r m (⟨he', _⟩ | ⟨_, k1, c1, A1, hk1, rfl, hR1, rfl⟩ | ⟨_, hf, _⟩)
    · exact absurd he he'
    rotate_left
    · cases hf
    obtain ⟨hz, hA⟩ := uniq _ _ hR1
    subst hz
    change opsVC _ _ _ _ _ _ [some (hopV p n U T Z C S, 1106), some (.ints .u8 (k0 * 8) A0, c0 * 8), some (.ints .u8 (k0 * 8) A1, c1 * 8)] _
    refine And.intro (And.intro rfl (And.intro rfl trivial)) (Spec.mono (eqVecs_s k0 c1 c0 A1 A0 (by omega) (fun j hj => (hA j hj).symm)) ?_)
    rintro r m ⟨rfl, rfl⟩
    change opsVC _ _ _ _ _ _ [some (hopV p n U T Z C S, 1106), some (.ints .u8 (k0 * 8) A0, c0 * 8), some (.ints .u8 (k0 * 8) A1, c1 * 8)] _
    refine And.intro (And.intro rfl trivial) (Spec.mono (markVecs_s k0 c1 101 A1 (by omega) (by omega)) ?_)
    rintro r m ⟨rfl, rfl⟩
    change opsVC _ _ _ _ _ _ [some (hopV p n U T Z C S, 1106), some (.ints .u8 (k0 * 8) A0, c0 * 8), some (.ints .u8 (k0 * 8) (markF 101), c1 * 8)] _
    refine And.intro (And.intro rfl trivial) (Spec.mono (heldVecs_s k0 c1 101 (by omega) (by omega)) ?_)
    rintro r m ⟨rfl, rfl⟩
    change opsVC _ _ _ _ _ _ [some (hopV p n U T Z C S, 1106), some (.ints .u8 (k0 * 8) A0, c0 * 8), some (.ints .u8 (k0 * 8) (markF 101), c1 * 8)] _
    refine ifVC_false (by simp) ?_
    refine And.intro trivial (Spec.mono (toHopf_s p n U T Z C S) ?_)
    rintro r m ⟨rfl, rfl⟩
    change opsVC _ _ _ _ _ _ [some (hopV p n U T Z C S, 1106), some (.ints .u8 (k0 * 8) A0, c0 * 8), some (.ints .u8 (k0 * 8) (markF 101), c1 * 8)] _
    refine And.intro trivial (Spec.mono (implAug_s p n U T Z C S hU hT hZ hC hS) ?_)
    rintro r m (⟨he', _⟩ | ⟨_, k2, c2, A2, hk2, rfl, hR2, rfl⟩ | ⟨_, hf, _⟩)
    · exact absurd he he'
    rotate_left
    · cases hf
    obtain ⟨hz, hA2⟩ := uniq _ _ hR2
    subst hz
    change opsVC _ _ _ _ _ _ [some (hopV p n U T Z C S, 1106), some (.ints .u8 (k0 * 8) A0, c0 * 8), some (.ints .u8 (k0 * 8) (markF 101), c1 * 8), some (.ints .u8 (k0 * 8) A2, c2 * 8)] _
    refine And.intro (And.intro rfl (And.intro rfl trivial)) (Spec.mono (eqVecs_s k0 c2 c0 A2 A0 (by omega) (fun j hj => (hA2 j hj).symm)) ?_)
    rintro r m ⟨rfl, rfl⟩
    change opsVC _ _ _ _ _ _ [some (hopV p n U T Z C S, 1106), some (.ints .u8 (k0 * 8) A0, c0 * 8), some (.ints .u8 (k0 * 8) (markF 101), c1 * 8), some (.ints .u8 (k0 * 8) A2, c2 * 8)] _
    refine And.intro (And.intro rfl trivial) (Spec.mono (heldVecs_s k0 c1 101 (by omega) (by omega)) ?_)
    rintro r m ⟨rfl, rfl⟩
    change opsVC _ _ _ _ _ _ [some (hopV p n U T Z C S, 1106), some (.ints .u8 (k0 * 8) A0, c0 * 8), some (.ints .u8 (k0 * 8) (markF 101), c1 * 8), some (.ints .u8 (k0 * 8) A2, c2 * 8)] _
    refine ifVC_false (by simp) ?_
    exact boolEq rfl
  · cases hf
end Go.Proofs.Ytjanlnngeklhoaa
