/- The axioms of Hopf algebras, as the model checks them. -/
import Derived.Test.YtegcfjfhpodlmaaHop3
set_option linter.unusedVariables false
set_option linter.unusedSimpArgs false
set_option maxRecDepth 100000
set_option maxHeartbeats 1000000
namespace Go.Proofs.Ytegcfjfhpodlmaa
open M

theorem l01Zero_s (v : Nat → Int) : Spec Try.prog 111 [.ints .u8 8 v] [] (Ret (.bool (allEq 8 v fun _ => 0))) := by
  refine Spec.ret rfl (Spec.of_vc tabOK tabEq Try.func111 rfl (by kernel_rfl) rfl rfl ?_)
  (repeat (first | refine And.intro (by omega) ?_ | refine And.intro ⟨by omega, by omega⟩ ?_))
  exact boolEq rfl

theorem cop_skip {p : Int} {C v : Nat → Int} {i : Nat} (hv : v i = 0) (j k : Nat) : cop p C v (i + 1) j k = cop p C v i j k := by
  unfold cop
  show (sumN i (fun a => v a * vecT C a j k) + v i * vecT C i j k) % p = _
  rw [hv]; simp

theorem l03Coproduct_s (p : Int) (n : Nat) (U T Z C S v : Nat → Int) (hV : Valid p n Z (dualF C)) (hC : isU8 512 C) (hv : isU8 8 v) (hz : ∀ i, n ≤ i → i < 8 → v i = 0) :
    Spec Try.prog 93 [hopV p n U T Z C S, .ints .u8 8 v] [] (Ret (.ints .u8 64 (leftT p C v))) := by
  have hn := hV.hn
  have hp := hV.hp
  refine Spec.ret rfl (Spec.of_vc tabOK tabEq Try.func93 rfl (by kernel_rfl) rfl rfl ?_)
  (repeat (first | refine And.intro (by omega) ?_ | refine And.intro ⟨by omega, by omega⟩ ?_))
  refine LoopVC.of (fun i : Nat => i ≤ n) (fun i => [(2, .ptr 0 [] 0 0), (3, .ptr 1 [] 0 0), (4, .ptr 2 [] 0 0), (5, .ptr 3 [] 0 0), (6, .int .i64 i)])
    (fun i => [some (hopV p n U T Z C S, 1106), some (.ints .u8 8 v, 8), some (.ints .u8 64 fun _ => 0, 64), some (.ints .u8 64 fun q => if q / 8 < n then cop p C v i (q / 8) (q % 8) else 0, 64)]) (fun i => n - i) 0 (by omega) ?_ ?_ ?_
  · exact (And.intro rfl (And.intro rfl (And.intro rfl (And.intro rfl (And.intro rfl (trivial))))))
  · exact And.intro (And.intro (hopR p n U T Z C S) rfl) (And.intro (And.intro (rowEq fun _ _ => rfl) rfl) (And.intro (And.intro (rowEq fun _ _ => rfl) rfl) (And.intro (And.intro (rowEq fun q hq => by show updR _ 0 64 _ q = _; simp [updR, hq, cop, sumN]) rfl) trivial)))
  · intro i hi
    refine ifVC_split (fun h => ?_) (fun h => ?_)
    · have hlti := of_decide_eq_true h
      have hidx : (i : Int).toNat = i := by omega
      have hvi := hv i (by omega)
      have done : ∀ j : Nat, j ≤ n → (j = n ∨ v i = 0) → ∀ q, q < 64 → (if q / 8 < j then cop p C v (i + 1) (q / 8) (q % 8) else if q / 8 < n then cop p C v i (q / 8) (q % 8) else 0) = if q / 8 < n then cop p C v (i + 1) (q / 8) (q % 8) else 0 := fun j hj hd q hq => by
        by_cases h2 : q / 8 < j
        · rw [if_pos h2, if_pos (by omega)]
        · rw [if_neg h2]
          rcases hd with hd | hd
          · rw [if_neg (by omega), if_neg (by omega)]
          · rw [cop_skip hd]
      refine LoopVC.of (fun j : Nat => j ≤ n) (fun j => [(2, .ptr 0 [] 0 0), (3, .ptr 1 [] 0 0), (4, .ptr 2 [] 0 0), (5, .ptr 3 [] 0 0), (6, .int .i64 i), (7, .int .i64 j)])
        (fun j => [some (hopV p n U T Z C S, 1106), some (.ints .u8 8 v, 8), some (.ints .u8 64 fun _ => 0, 64), some (.ints .u8 64 fun q => if q / 8 < j then cop p C v (i + 1) (q / 8) (q % 8) else if q / 8 < n then cop p C v i (q / 8) (q % 8) else 0, 64)]) (fun j => n - j) 0 (by omega) ?_ ?_ ?_
      · exact (And.intro rfl (And.intro rfl (And.intro rfl (And.intro rfl (And.intro rfl (And.intro rfl (trivial)))))))
      · exact And.intro (And.intro (hopR p n U T Z C S) rfl) (And.intro (And.intro (rowEq fun _ _ => rfl) rfl) (And.intro (And.intro (rowEq fun _ _ => rfl) rfl) (And.intro (And.intro (rowEq fun q hq => by simp) rfl) trivial)))
      · intro j hj
        refine ifVC_split (fun h => ?_) (fun h => ?_)
        · have hltj := of_decide_eq_true h
          have hjdx : (j : Int).toNat = j := by omega
          (repeat (first | refine And.intro (by omega) ?_ | refine And.intro ⟨by omega, by omega⟩ ?_))
          refine ifVC_split (fun hz0 => ?_) (fun hz0 => ?_)
          · refine Exists.intro 18 (And.intro (by kernel_rfl) ?_)
            (repeat (first | refine And.intro (by omega) ?_ | refine And.intro ⟨by omega, by omega⟩ ?_))
            have hout : isU8 64 fun q => if q / 8 < j then cop p C v (i + 1) (q / 8) (q % 8) else if q / 8 < n then cop p C v i (q / 8) (q % 8) else 0 := fun q hq => by
              dsimp only
              split
              · exact modB hp
              · split
                · exact modB hp
                · omega
            have hvw : IntKind.i64.wrap (v ((i : Int).toNat * 1 + 0)) = v i := by rw [show (i : Int).toNat * 1 + 0 = i by omega]; exact wrapI (by omega)
            refine Exists.intro (.ints .u8 8 _) (And.intro (And.intro rfl (And.intro rfl (Spec.mono (l01Add_s p _ _ _ hp (by rw [hvw]; omega) (fun q hq => hout _ (by omega)) (fun q hq => hC _ (by omega))) fun r m h => h.1))) ?_)
            (repeat (first | refine And.intro (by omega) ?_ | refine And.intro ⟨by omega, by omega⟩ ?_))
            refine Exists.intro (j + 1) (And.intro (by omega) (And.intro (by omega) (And.intro (And.intro rfl (And.intro rfl (And.intro rfl (And.intro rfl (And.intro rfl (And.intro (slotI (wrapS (by omega))) trivial)))))) ?_)))
            refine And.intro (And.intro (hopR p n U T Z C S) rfl) (And.intro (And.intro (rowEq fun _ _ => rfl) rfl) (And.intro (And.intro (rowEq fun _ _ => rfl) rfl) (And.intro (And.intro (rowEq fun q hq => ?_) rfl) trivial)))
            show updR _ ((j : Int).toNat * 8 + 0) 8 _ q = _
            unfold updR
            rw [hjdx]
            by_cases h1 : j * 8 + 0 ≤ q ∧ q < j * 8 + 0 + 8
            · rw [if_pos h1, if_pos (by omega)]
              unfold addM
              rw [hvw, cop_step]
              dsimp only
              have e1 : q - (j * 8 + 0) + (j * 8 + 0) = q := by omega
              have e2 : C (q - (j * 8 + 0) + (j * 8 + ((i : Int).toNat * 64 + 0))) = vecT C i (q / 8) (q % 8) := by unfold vecT; congr 1; omega
              rw [e1, e2, if_neg (by omega), if_pos (by omega)]
            · rw [if_neg h1]
              dsimp only
              by_cases h2 : q / 8 < j
              · rw [if_pos h2, if_pos (show q / 8 < j + 1 by omega)]
              · rw [if_neg h2, if_neg (show ¬ q / 8 < j + 1 by omega)]
          · have hz0 : v i = 0 := by
              have hz0 : v ((i : Int).toNat * 1 + 0) = 0 := by simpa using hz0
              rw [show (i : Int).toNat * 1 + 0 = i by omega] at hz0; exact hz0
            refine Exists.intro (i + 1) (And.intro (by omega) (And.intro (by omega) (And.intro (And.intro rfl (And.intro rfl (And.intro rfl (And.intro rfl (And.intro (slotI (wrapS (by omega))) trivial))))) ?_)))
            exact And.intro (And.intro (hopR p n U T Z C S) rfl) (And.intro (And.intro (rowEq fun _ _ => rfl) rfl) (And.intro (And.intro (rowEq fun _ _ => rfl) rfl) (And.intro (And.intro (rowEq fun q hq => done j hj (.inr hz0) q hq) rfl) trivial)))
        · have hge := of_decide_eq_false h
          refine Exists.intro (i + 1) (And.intro (by omega) (And.intro (by omega) (And.intro (And.intro rfl (And.intro rfl (And.intro rfl (And.intro rfl (And.intro (slotI (wrapS (by omega))) trivial))))) ?_)))
          exact And.intro (And.intro (hopR p n U T Z C S) rfl) (And.intro (And.intro (rowEq fun _ _ => rfl) rfl) (And.intro (And.intro (rowEq fun _ _ => rfl) rfl) (And.intro (And.intro (rowEq fun q hq => done j hj (.inl (by omega)) q hq) rfl) trivial)))
    · have hge := of_decide_eq_false h
      obtain rfl : i = n := by omega
      (repeat (first | refine And.intro (by omega) ?_ | refine And.intro ⟨by omega, by omega⟩ ?_))
      refine rowEq fun q hq => ?_
      rw [cop_left hV hz hq]
      show updR _ 0 64 _ q = _
      simp [updR, hq]

theorem l03Counit_s (p : Int) (n : Nat) (U T Z C S v : Nat → Int) (hp : 0 < p ∧ p < 256) (hn : n ≤ 8) (hZ : isU8 8 Z) (hv : isU8 8 v) (hz : ∀ i, n ≤ i → i < 8 → v i = 0) :
    Spec Try.prog 95 [hopV p n U T Z C S, .ints .u8 8 v] [] (Ret (.int .i64 (cnt p Z v))) := by
  refine Spec.ret rfl (Spec.of_vc tabOK tabEq Try.func95 rfl (by kernel_rfl) rfl rfl ?_)
  refine LoopVC.of (fun i : Nat => i ≤ n) (fun i => [(2, .ptr 0 [] 0 0), (3, .ptr 1 [] 0 0), (5, .int .i64 (cntN Z v i)), (6, .int .i64 i)]) (fun _ => [some (hopV p n U T Z C S, 1106), some (.ints .u8 8 v, 8)]) (fun i => n - i) 0 (by omega) ?_ ?_ ?_
  · exact (And.intro rfl (And.intro rfl (And.intro rfl (And.intro rfl (trivial)))))
  · exact And.intro (And.intro (hopR p n U T Z C S) rfl) (And.intro (And.intro (rowEq fun _ _ => rfl) rfl) trivial)
  · intro i hi
    refine ifVC_split (fun h => ?_) (fun h => ?_)
    · have hlt := of_decide_eq_true h
      refine Exists.intro 12 (And.intro (by kernel_rfl) ?_)
      (repeat (first | refine And.intro (by omega) ?_ | refine And.intro ⟨by omega, by omega⟩ ?_))
      refine Exists.intro (i + 1) (And.intro (by omega) (And.intro (by omega) (And.intro (And.intro rfl (And.intro rfl (And.intro (slotI (cnt_step hZ hv (by omega) (by omega) (by omega))) (And.intro (slotI (wrapS (by omega))) trivial)))) (And.intro (And.intro (hopR p n U T Z C S) rfl) (And.intro (And.intro (rowEq fun _ _ => rfl) rfl) trivial)))))
    · have hge := of_decide_eq_false h
      obtain rfl : i = n := by omega
      have h4 := cnt_bound hZ hv i (by omega)
      (repeat (first | refine And.intro (by omega) ?_ | refine And.intro ⟨by omega, by omega⟩ ?_))
      refine slotI ?_
      rw [Int.tmod_eq_emod_of_nonneg h4.1]
      unfold cnt cntN
      rw [sumN_cut 8 hn fun a h1 h2 => by rw [hz a h1 h2]; simp]

/-! ### products of pairs -/
theorem pw_zero {p : Int} {n : Nat} {T F G : Nat → Int} {a b : Nat} (h : (∀ m, m < 8 → partF F 8 a m = 0) ∨ (∀ m, m < 8 → partF G 8 b m = 0)) (y : Nat) : pw p T F G a b y = 0 := by
  unfold pw
  rcases h with h | h
  · exact prodF_none h _ y
  · rw [prodF_sum, sumN_none 8 fun i hi => by rw [h i hi]; simp]
    simp
theorem pairT_cut {p : Int} {n : Nat} {U T : Nat → Int} (hV : Valid p n U T) (F G : Nat → Int) {q : Nat} (hq : q < 64) : pairT p T F G 8 8 q = pairT p T F G n n q := by
  have hn := hV.hn
  have e : ∀ a, a < 8 → pairN p T F G a 8 q = pairN p T F G a n q := fun a ha => by
    unfold pairN
    exact sumN_cut 8 hn fun b h1 h2 => by rw [hV.zero a b (q / 8) ha h2 (by omega) (.inr (.inl h1))]; simp
  unfold pairT
  rw [sumN_congr 8 e]
  refine sumN_cut 8 hn fun a h1 h2 => ?_
  unfold pairN
  exact sumN_none n fun b hb => by rw [hV.zero a b (q / 8) h2 (by omega) (by omega) (.inl h1)]; simp

theorem l03Pairs_s (p : Int) (n : Nat) (U T Z C S F G : Nat → Int) (hV : HV p n U T Z C S) (hF : isU8 64 F) (hG : isU8 64 G) (hFz : ∀ a m, a < 8 → m < 8 → n ≤ m → partF F 8 a m = 0) (hGz : ∀ a m, a < 8 → m < 8 → n ≤ m → partF G 8 a m = 0) :
    Spec Try.prog 94 [hopV p n U T Z C S, .ints .u8 64 F, .ints .u8 64 G] [] (Ret (.ints .u8 64 (pairsF p T F G))) := by
  have hn := hV.a.hn
  have hp := hV.a.hp
  have hT := hV.hT
  have HE : ∀ (r : Mem), True := fun _ => trivial
  refine Spec.ret rfl (Spec.of_vc tabOK tabEq Try.func94 rfl (by kernel_rfl) rfl rfl ?_)
  refine Exists.intro 8 (And.intro (by kernel_rfl) ?_)
  (repeat (first | refine And.intro (by omega) ?_ | refine And.intro ⟨by omega, by omega⟩ ?_))
  refine LoopVC.of (fun j : Nat => j ≤ n) (fun j => [(3, .ptr 0 [] 0 0), (4, .ptr 1 [] 0 0), (5, .ptr 2 [] 0 0), (6, .ptr 3 [] 0 0), (7, .int .i64 p), (8, .int .i64 n), (9, .ptr 4 [] 0 0), (10, .int .i64 j)])
    (fun j => [some (hopV p n U T Z C S, 1106), some (.ints .u8 64 F, 64), some (.ints .u8 64 G, 64), some (.ints .u8 64 fun _ => 0, 64), some (.ints .u8 64 fun q => pairT p T F G j n q % p, 64)]) (fun j => n - j) 0 (by omega) ?_ ?_ ?_
  · exact (And.intro rfl (And.intro rfl (And.intro rfl (And.intro rfl (And.intro rfl (And.intro rfl (And.intro rfl (And.intro rfl (trivial)))))))))
  · exact And.intro (And.intro (hopR p n U T Z C S) rfl) (And.intro (And.intro (rowEq fun _ _ => rfl) rfl) (And.intro (And.intro (rowEq fun _ _ => rfl) rfl) (And.intro (And.intro (rowEq fun _ _ => rfl) rfl) (And.intro (And.intro (rowEq fun q hq => by show updR _ 0 64 _ q = _; simp [updR, hq, pairT, sumN]) rfl) trivial))))
  · intro j hj
    refine ifVC_split (fun h => ?_) (fun h => ?_)
    · have hltj := of_decide_eq_true h
      have hjdx : (j : Int).toNat = j := by omega
      refine LoopVC.of (fun l : Nat => l ≤ n) (fun l => [(3, .ptr 0 [] 0 0), (4, .ptr 1 [] 0 0), (5, .ptr 2 [] 0 0), (6, .ptr 3 [] 0 0), (7, .int .i64 p), (8, .int .i64 n), (9, .ptr 4 [] 0 0), (10, .int .i64 j), (11, .int .i64 l)])
        (fun l => [some (hopV p n U T Z C S, 1106), some (.ints .u8 64 F, 64), some (.ints .u8 64 G, 64), some (.ints .u8 64 fun _ => 0, 64), some (.ints .u8 64 fun q => (pairT p T F G j n q + pairN p T F G j l q) % p, 64)]) (fun l => n - l) 0 (by omega) ?_ ?_ ?_
      · exact (And.intro rfl (And.intro rfl (And.intro rfl (And.intro rfl (And.intro rfl (And.intro rfl (And.intro rfl (And.intro rfl (And.intro rfl (trivial))))))))))
      · exact And.intro (And.intro (hopR p n U T Z C S) rfl) (And.intro (And.intro (rowEq fun _ _ => rfl) rfl) (And.intro (And.intro (rowEq fun _ _ => rfl) rfl) (And.intro (And.intro (rowEq fun _ _ => rfl) rfl) (And.intro (And.intro (rowEq fun q hq => by simp [pairN, sumN]) rfl) trivial))))
      · intro l hl
        refine ifVC_split (fun h => ?_) (fun h => ?_)
        · have hltl := of_decide_eq_true h
          have hldx : (l : Int).toNat = l := by omega
          have next : ∀ (s : Slots) (m : Mem) (o : Nat → Int), (∀ q, q < 64 → o q = (pairT p T F G j n q + pairN p T F G j (l + 1) q) % p) → eqvO (lk s 3) (.ptr 0 [] 0 0) → eqvO (lk s 4) (.ptr 1 [] 0 0) → eqvO (lk s 5) (.ptr 2 [] 0 0) → eqvO (lk s 6) (.ptr 3 [] 0 0) → eqvO (lk s 7) (.int .i64 p) → eqvO (lk s 8) (.int .i64 n) → eqvO (lk s 9) (.ptr 4 [] 0 0) → eqvO (lk s 10) (.int .i64 j) → eqvO (lk s 11) (.int .i64 (IntKind.i64.wrap ((l : Int) + 1))) →
              memCut m [some (hopV p n U T Z C S, 1106), some (.ints .u8 64 F, 64), some (.ints .u8 64 G, 64), some (.ints .u8 64 fun _ => 0, 64), some (.ints .u8 64 fun q => (pairT p T F G j n q + pairN p T F G j (l + 1) q) % p, 64)] →
              ∃ x' : Nat, x' ≤ n ∧ n - x' < n - l ∧ subL [(3, .ptr 0 [] 0 0), (4, .ptr 1 [] 0 0), (5, .ptr 2 [] 0 0), (6, .ptr 3 [] 0 0), (7, .int .i64 p), (8, .int .i64 n), (9, .ptr 4 [] 0 0), (10, .int .i64 j), (11, .int .i64 x')] s ∧
                memCut m [some (hopV p n U T Z C S, 1106), some (.ints .u8 64 F, 64), some (.ints .u8 64 G, 64), some (.ints .u8 64 fun _ => 0, 64), some (.ints .u8 64 fun q => (pairT p T F G j n q + pairN p T F G j x' q) % p, 64)] := fun s m o _ h3 h4 h5 h6 h7 h8 h9 h10 h11 hm =>
            ⟨l + 1, by omega, by omega, ⟨h3, h4, h5, h6, h7, h8, h9, h10, by rw [wrapS (by omega)] at h11; exact h11, trivial⟩, hm⟩
          have hFj : isU8 8 (partF F 8 j) := part_u8 hF (by omega)
          have hGl : isU8 8 (partF G 8 l) := part_u8 hG (by omega)
          refine Exists.intro 10 (And.intro (by kernel_rfl) ?_)
          refine Exists.intro (algV p n U T) (And.intro (And.intro rfl (And.intro rfl (Spec.mono (l03Algebra_s p n U T Z C S) fun r m h => h.1))) ?_)
          (repeat (first | refine And.intro (by omega) ?_ | refine And.intro ⟨by omega, by omega⟩ ?_))
          refine Exists.intro (.ints .u8 8 fun y => timS p n T (partF F 8 j) (partF G 8 l) n y % p) (And.intro (And.intro rfl (And.intro rfl ?_)) ?_)
          · refine Spec.mono (l01Times_s p n U T _ _ hp hn hT (fun q hq => hF _ (by omega)) (fun q hq => hG _ (by omega))) ?_
            rintro r m ⟨rfl, _⟩
            rw [hjdx, hldx]
            rfl
          have hrow : ∀ y, y < 8 → timS p n T (partF F 8 j) (partF G 8 l) n y % p = pw p T F G j l y := fun y hy => prod_eq hV.a (fun m h1 h2 => hFz j m (by omega) h2 h1) (fun m h1 h2 => hGz l m (by omega) h2 h1) hy
          (repeat (first | refine And.intro (by omega) ?_ | refine And.intro ⟨by omega, by omega⟩ ?_))
          refine And.intro trivial (Spec.mono (l01Zero_s _) ?_)
          rintro r m ⟨rfl, rfl⟩
          have hq : allEq 8 (fun q => updR (fun _ => 0) 0 8 (fun y => timS p n T (partF F 8 j) (partF G 8 l) n y % p) (q + 0)) (fun _ => 0) = allEq 8 (pw p T F G j l) (fun _ => 0) := allEq_congr (fun q hq => by simp [updR, hq]; exact hrow q hq) fun _ _ => rfl
          refine ifVC_split (fun hz0 => ?_) (fun hz0 => ?_)
          · have hz0 : allEq 8 (pw p T F G j l) (fun _ => 0) = true := by rw [← hq]; exact hz0
            refine next _ _ _ (fun q hq => rfl) rfl rfl rfl rfl rfl rfl rfl rfl rfl ?_
            refine And.intro (And.intro (hopR p n U T Z C S) rfl) (And.intro (And.intro (rowEq fun _ _ => rfl) rfl) (And.intro (And.intro (rowEq fun _ _ => rfl) rfl) (And.intro (And.intro (rowEq fun _ _ => rfl) rfl) (And.intro (And.intro (rowEq fun q hq => ?_) rfl) trivial))))
            show (pairT p T F G j n q + pairN p T F G j l q) % p = (pairT p T F G j n q + (pairN p T F G j l q + vecT T j l (q / 8) * pw p T F G j l (q % 8))) % p
            rw [allEq_get hz0 (show q % 8 < 8 by omega)]
            simp
          refine LoopVC.of (fun x : Nat => x ≤ n) (fun x => [(3, .ptr 0 [] 0 0), (4, .ptr 1 [] 0 0), (5, .ptr 2 [] 0 0), (6, .ptr 3 [] 0 0), (7, .int .i64 p), (8, .int .i64 n), (9, .ptr 4 [] 0 0), (10, .int .i64 j), (11, .int .i64 l), (12, .ptr 5 [] 0 0), (13, .int .i64 x)])
            (fun x => [some (hopV p n U T Z C S, 1106), some (.ints .u8 64 F, 64), some (.ints .u8 64 G, 64), some (.ints .u8 64 fun _ => 0, 64), some (.ints .u8 64 fun q => (pairT p T F G j n q + pairN p T F G j (if q / 8 < x then l + 1 else l) q) % p, 64), some (.ints .u8 8 (pw p T F G j l), 8)]) (fun x => n - x) 0 (by omega) ?_ ?_ ?_
          · exact (And.intro rfl (And.intro rfl (And.intro rfl (And.intro rfl (And.intro rfl (And.intro rfl (And.intro rfl (And.intro rfl (And.intro rfl (And.intro rfl (And.intro rfl (trivial))))))))))))
          · exact And.intro (And.intro (hopR p n U T Z C S) rfl) (And.intro (And.intro (rowEq fun _ _ => rfl) rfl) (And.intro (And.intro (rowEq fun _ _ => rfl) rfl) (And.intro (And.intro (rowEq fun _ _ => rfl) rfl) (And.intro (And.intro (rowEq fun q hq => by simp) rfl) (And.intro (And.intro (rowEq fun q hq => by show updR _ 0 8 _ q = _; simp [updR, hq]; exact hrow q hq) rfl) trivial)))))
          · intro x hx
            refine ifVC_split (fun h => ?_) (fun h => ?_)
            · have hltx := of_decide_eq_true h
              have hxdx : (x : Int).toNat = x := by omega
              have hk : T ((x : Int).toNat * 1 + ((l : Int).toNat * 8 + ((j : Int).toNat * 64 + 0))) = vecT T j l x := by rw [hjdx, hldx, hxdx]; unfold vecT; congr 1; omega
              have hkb := vec_u8 hT (show j < 8 by omega) (show l < 8 by omega) (show x < 8 by omega)
              (repeat (first | refine And.intro (by omega) ?_ | refine And.intro ⟨by omega, by omega⟩ ?_))
              refine ifVC_split (fun hc => ?_) (fun hc => ?_)
              · refine Exists.intro 10 (And.intro (by kernel_rfl) ?_)
                (repeat (first | refine And.intro (by omega) ?_ | refine And.intro ⟨by omega, by omega⟩ ?_))
                refine Exists.intro (.ints .u8 8 _) (And.intro (And.intro rfl (And.intro rfl (Spec.mono (l01Add_s p _ _ _ hp (by rw [hk, wrapI (by omega)]; omega) (fun q hq => modB hp) (fun q hq => modB hp)) fun r m h => h.1))) ?_)
                (repeat (first | refine And.intro (by omega) ?_ | refine And.intro ⟨by omega, by omega⟩ ?_))
                refine Exists.intro (x + 1) (And.intro (by omega) (And.intro (by omega) (And.intro (And.intro rfl (And.intro rfl (And.intro rfl (And.intro rfl (And.intro rfl (And.intro rfl (And.intro rfl (And.intro rfl (And.intro rfl (And.intro rfl (And.intro (slotI (wrapS (by omega))) trivial))))))))))) ?_)))
                refine And.intro (And.intro (hopR p n U T Z C S) rfl) (And.intro (And.intro (rowEq fun _ _ => rfl) rfl) (And.intro (And.intro (rowEq fun _ _ => rfl) rfl) (And.intro (And.intro (rowEq fun _ _ => rfl) rfl) (And.intro (And.intro (rowEq fun q hq => ?_) rfl) (And.intro (And.intro (rowEq fun _ _ => rfl) rfl) trivial)))))
                show updR _ ((x : Int).toNat * 8 + 0) 8 _ q = _
                unfold updR
                rw [hxdx]
                by_cases h1 : x * 8 + 0 ≤ q ∧ q < x * 8 + 0 + 8
                · rw [if_pos h1, if_pos (show q / 8 < x + 1 by omega)]
                  unfold addM
                  dsimp only
                  rw [hxdx] at hk
                  rw [hk, wrapI (x := vecT T j l x) (by omega), show q - (x * 8 + 0) + (x * 8 + 0) = q by omega, if_neg (show ¬ q / 8 < x by omega), mod_add, Int.add_assoc]
                  congr 2
                  show _ = pairN p T F G j l q + vecT T j l (q / 8) * pw p T F G j l (q % 8)
                  rw [show q / 8 = x by omega, show q - (x * 8 + 0) + 0 = q % 8 by omega]
                · rw [if_neg h1]
                  dsimp only
                  by_cases h2 : q / 8 < x
                  · rw [if_pos h2, if_pos (show q / 8 < x + 1 by omega)]
                  · rw [if_neg h2, if_neg (show ¬ q / 8 < x + 1 by omega)]
              · have hc : vecT T j l x = 0 := by rw [hk] at hc; simpa using hc
                refine Exists.intro (x + 1) (And.intro (by omega) (And.intro (by omega) (And.intro (And.intro rfl (And.intro rfl (And.intro rfl (And.intro rfl (And.intro rfl (And.intro rfl (And.intro rfl (And.intro rfl (And.intro rfl (And.intro rfl (And.intro (slotI (wrapS (by omega))) trivial))))))))))) ?_)))
                refine And.intro (And.intro (hopR p n U T Z C S) rfl) (And.intro (And.intro (rowEq fun _ _ => rfl) rfl) (And.intro (And.intro (rowEq fun _ _ => rfl) rfl) (And.intro (And.intro (rowEq fun _ _ => rfl) rfl) (And.intro (And.intro (rowEq fun q hq => ?_) rfl) (And.intro (And.intro (rowEq fun _ _ => rfl) rfl) trivial)))))
                by_cases h2 : q / 8 < x
                · rw [if_pos h2, if_pos (show q / 8 < x + 1 by omega)]
                · rw [if_neg h2]
                  by_cases h3 : q / 8 < x + 1
                  · rw [if_pos h3]
                    show _ = (pairT p T F G j n q + (pairN p T F G j l q + vecT T j l (q / 8) * pw p T F G j l (q % 8))) % p
                    rw [show q / 8 = x by omega, hc]
                    simp
                  · rw [if_neg h3]
            · have hge := of_decide_eq_false h
              obtain rfl : x = n := by omega
              refine next _ _ _ (fun q hq => rfl) rfl rfl rfl rfl rfl rfl rfl rfl rfl ?_
              refine And.intro (And.intro (hopR p x U T Z C S) rfl) (And.intro (And.intro (rowEq fun _ _ => rfl) rfl) (And.intro (And.intro (rowEq fun _ _ => rfl) rfl) (And.intro (And.intro (rowEq fun _ _ => rfl) rfl) (And.intro (And.intro (rowEq fun q hq => ?_) rfl) trivial))))
              by_cases h2 : q / 8 < x
              · rw [if_pos h2]
              · rw [if_neg h2]
                show _ = (pairT p T F G j x q + (pairN p T F G j l q + vecT T j l (q / 8) * pw p T F G j l (q % 8))) % p
                rw [hV.a.zero j l (q / 8) (by omega) (by omega) (by omega) (.inr (.inr (by omega)))]
                simp
        · have hge := of_decide_eq_false h
          obtain rfl : l = n := by omega
          refine Exists.intro (j + 1) (And.intro (by omega) (And.intro (by omega) (And.intro (And.intro rfl (And.intro rfl (And.intro rfl (And.intro rfl (And.intro rfl (And.intro rfl (And.intro rfl (And.intro (slotI (wrapS (by omega))) trivial)))))))) ?_)))
          exact And.intro (And.intro (hopR p l U T Z C S) rfl) (And.intro (And.intro (rowEq fun _ _ => rfl) rfl) (And.intro (And.intro (rowEq fun _ _ => rfl) rfl) (And.intro (And.intro (rowEq fun _ _ => rfl) rfl) (And.intro (And.intro (rowEq fun q hq => rfl) rfl) trivial))))
    · have hge := of_decide_eq_false h
      obtain rfl : j = n := by omega
      (repeat (first | refine And.intro (by omega) ?_ | refine And.intro ⟨by omega, by omega⟩ ?_))
      refine rowEq fun q hq => ?_
      unfold pairsF
      rw [pairT_cut hV.a F G hq]
      show updR _ 0 64 _ q = _
      simp [updR, hq]

/-! ### the convolutions with the identity -/
def owF (p : Int) (T R : Nat → Int) (b : Bool) (j k : Nat) : Nat → Int := match b with | false => prodF p T (partF R 8 j) (unitV k) | true => prodF p T (unitV j) (partF R 8 k)
def foldN (p : Int) (T C R : Nat → Int) (b : Bool) (i j m y : Nat) : Int := sumN m fun k => vecT C i j k * owF p T R b j k y
def foldT (p : Int) (n : Nat) (T C R : Nat → Int) (b : Bool) (i m y : Nat) : Int := sumN m fun j => foldN p T C R b i j n y

theorem l03FoldedF_s (p : Int) (n : Nat) (U T Z C S R : Nat → Int) (hV : HV p n U T Z C S) (hR : isU8 64 R) (hRz : ∀ a m, a < 8 → m < 8 → n ≤ m → partF R 8 a m = 0) (i : Nat) (hi : i < n) :
    Spec Try.prog 96 [hopV p n U T Z C S, .int .i64 i, .ints .u8 64 R, .bool false] [] (Ret (.ints .u8 8 fun y => foldT p n T C R false i n y % p)) := by
  have hn := hV.a.hn
  have hp := hV.a.hp
  have hT := hV.hT
  have hidx : (i : Int).toNat = i := by omega
  refine Spec.ret rfl (Spec.of_vc tabOK tabEq Try.func96 rfl (by kernel_rfl) rfl rfl ?_)
  refine And.intro trivial (Spec.mono (l03Algebra_s p n U T Z C S) ?_)
  rintro r m ⟨rfl, rfl⟩
  (repeat (first | refine And.intro (by omega) ?_ | refine And.intro ⟨by omega, by omega⟩ ?_))
  refine LoopVC.of (fun j : Nat => j ≤ n) (fun j => [(1, .int .i64 i), (3, .bool false), (4, .ptr 0 [] 0 0), (6, .ptr 1 [] 0 0), (8, .ptr 2 [] 0 0), (9, .ptr 3 [] 0 0), (10, .ptr 4 [] 0 0), (11, .int .i64 j)])
    (fun j => [some (hopV p n U T Z C S, 1106), some (.ints .u8 64 R, 64), some (.ints .u8 8 fun _ => 0, 8), some (.ints .u8 8 fun y => foldT p n T C R false i j y % p, 8), some (algV p n U T, 522)]) (fun j => n - j) 0 (by omega) ?_ ?_ ?_
  · exact (And.intro rfl (And.intro rfl (And.intro rfl (And.intro rfl (And.intro rfl (And.intro rfl (And.intro rfl (And.intro rfl (trivial)))))))))
  · exact And.intro (And.intro (hopR p n U T Z C S) rfl) (And.intro (And.intro (rowEq fun _ _ => rfl) rfl) (And.intro (And.intro (rowEq fun _ _ => rfl) rfl) (And.intro (And.intro (rowEq fun q hq => by show updR _ 0 8 _ q = _; simp [updR, hq, foldT, sumN]) rfl) (And.intro (And.intro (algR p n U T) rfl) trivial))))
  · intro j hj
    refine ifVC_split (fun h => ?_) (fun h => ?_)
    · have hltj := of_decide_eq_true h
      have hjdx : (j : Int).toNat = j := by omega
      refine LoopVC.of (fun k : Nat => k ≤ n) (fun k => [(1, .int .i64 i), (3, .bool false), (4, .ptr 0 [] 0 0), (6, .ptr 1 [] 0 0), (8, .ptr 2 [] 0 0), (9, .ptr 3 [] 0 0), (10, .ptr 4 [] 0 0), (11, .int .i64 j), (12, .int .i64 k)])
        (fun k => [some (hopV p n U T Z C S, 1106), some (.ints .u8 64 R, 64), some (.ints .u8 8 fun _ => 0, 8), some (.ints .u8 8 fun y => (foldT p n T C R false i j y + foldN p T C R false i j k y) % p, 8), some (algV p n U T, 522)]) (fun k => n - k) 0 (by omega) ?_ ?_ ?_
      · exact (And.intro rfl (And.intro rfl (And.intro rfl (And.intro rfl (And.intro rfl (And.intro rfl (And.intro rfl (And.intro rfl (And.intro rfl (trivial))))))))))
      · exact And.intro (And.intro (hopR p n U T Z C S) rfl) (And.intro (And.intro (rowEq fun _ _ => rfl) rfl) (And.intro (And.intro (rowEq fun _ _ => rfl) rfl) (And.intro (And.intro (rowEq fun q hq => by simp [foldN, sumN]) rfl) (And.intro (And.intro (algR p n U T) rfl) trivial))))
      · intro k hk
        refine ifVC_split (fun h => ?_) (fun h => ?_)
        · have hltk := of_decide_eq_true h
          have hkdx : (k : Int).toNat = k := by omega
          have hcv : C ((k : Int).toNat * 1 + ((j : Int).toNat * 8 + ((i : Int).toNat * 64 + 0))) = vecT C i j k := by rw [hjdx, hidx, hkdx]; unfold vecT; congr 1; omega
          have hcb := vec_u8 hV.hC (show i < 8 by omega) (show j < 8 by omega) (show k < 8 by omega)
          (repeat (first | refine And.intro (by omega) ?_ | refine And.intro ⟨by omega, by omega⟩ ?_))
          have hcw : IntKind.i64.wrap (C ((k : Int).toNat * 1 + ((j : Int).toNat * 8 + ((i : Int).toNat * 64 + 0)))) = vecT C i j k := by rw [hcv]; exact wrapI (by omega)
          refine ifVC_split (fun hc => ?_) (fun hc => ?_)
          · refine Exists.intro 8 (And.intro (by kernel_rfl) ?_)
            (repeat (first | refine And.intro (by omega) ?_ | refine And.intro ⟨by omega, by omega⟩ ?_))
            refine Exists.intro (.ints .u8 8 (unitV k)) (And.intro (And.intro rfl (And.intro rfl (Spec.mono (l01Basis_s k (by omega)) fun r m h => by rw [hkdx] at h; exact h.1))) ?_)
            refine Exists.intro (.ints .u8 8 fun y => timS p n T (partF R 8 j) (unitV k) n y % p) (And.intro (And.intro rfl (And.intro rfl ?_)) ?_)
            · refine Spec.mono (l01Times_s p n U T _ _ hp hn hT (fun q hq => hR _ (by omega)) (unitV_u8 k 8)) ?_
              rintro r m ⟨rfl, _⟩
              rw [hjdx]
              rfl
            have hrow : ∀ y, y < 8 → timS p n T (partF R 8 j) (unitV k) n y % p = owF p T R false j k y := fun y hy => prod_eq hV.a (fun m h1 h2 => hRz j m (by omega) h2 h1) (fun m h1 h2 => unitV_ne (by omega)) hy
            (repeat (first | refine And.intro (by omega) ?_ | refine And.intro ⟨by omega, by omega⟩ ?_))
            refine And.intro trivial (Spec.mono (l01Add_s p _ _ _ hp (by rw [hcw]; omega) (fun q hq => modB hp) (fun q hq => by simp only [updR]; rw [if_pos (by omega)]; exact modB hp)) ?_)
            rintro r m ⟨rfl, rfl⟩
            (repeat (first | refine And.intro (by omega) ?_ | refine And.intro ⟨by omega, by omega⟩ ?_))
            refine Exists.intro (k + 1) (And.intro (by omega) (And.intro (by omega) (And.intro (And.intro rfl (And.intro rfl (And.intro rfl (And.intro rfl (And.intro rfl (And.intro rfl (And.intro rfl (And.intro rfl (And.intro (slotI (wrapS (by omega))) trivial))))))))) ?_)))
            refine And.intro (And.intro (hopR p n U T Z C S) rfl) (And.intro (And.intro (rowEq fun _ _ => rfl) rfl) (And.intro (And.intro (rowEq fun _ _ => rfl) rfl) (And.intro (And.intro (rowEq fun q hq => ?_) rfl) (And.intro (And.intro (algR p n U T) rfl) trivial))))
            have e := hrow q hq
            show updR _ 0 8 _ q = (foldT p n T C R false i j q + (foldN p T C R false i j k q + vecT C i j k * owF p T R false j k q)) % p
            simp only [updR, Nat.zero_le, true_and, Nat.zero_add, hq, if_true, Nat.sub_zero, addM, Nat.add_zero]
            simp only [Nat.add_zero] at hcw
            rw [hcw, e, mod_add, Int.add_assoc]
          · have hc : vecT C i j k = 0 := by rw [← hcw]; simpa using hc
            refine Exists.intro (k + 1) (And.intro (by omega) (And.intro (by omega) (And.intro (And.intro rfl (And.intro rfl (And.intro rfl (And.intro rfl (And.intro rfl (And.intro rfl (And.intro rfl (And.intro rfl (And.intro (slotI (wrapS (by omega))) trivial))))))))) ?_)))
            refine And.intro (And.intro (hopR p n U T Z C S) rfl) (And.intro (And.intro (rowEq fun _ _ => rfl) rfl) (And.intro (And.intro (rowEq fun _ _ => rfl) rfl) (And.intro (And.intro (rowEq fun q hq => ?_) rfl) (And.intro (And.intro (algR p n U T) rfl) trivial))))
            show _ = (foldT p n T C R false i j q + (foldN p T C R false i j k q + vecT C i j k * owF p T R false j k q)) % p
            rw [hc]
            simp
        · have hge := of_decide_eq_false h
          obtain rfl : k = n := by omega
          refine Exists.intro (j + 1) (And.intro (by omega) (And.intro (by omega) (And.intro (And.intro rfl (And.intro rfl (And.intro rfl (And.intro rfl (And.intro rfl (And.intro rfl (And.intro rfl (And.intro (slotI (wrapS (by omega))) trivial)))))))) ?_)))
          exact And.intro (And.intro (hopR p k U T Z C S) rfl) (And.intro (And.intro (rowEq fun _ _ => rfl) rfl) (And.intro (And.intro (rowEq fun _ _ => rfl) rfl) (And.intro (And.intro (rowEq fun q hq => rfl) rfl) (And.intro (And.intro (algR p k U T) rfl) trivial))))
    · have hge := of_decide_eq_false h
      obtain rfl : j = n := by omega
      (repeat (first | refine And.intro (by omega) ?_ | refine And.intro ⟨by omega, by omega⟩ ?_))
      refine rowEq fun q hq => ?_
      show updR _ 0 8 _ q = _
      simp [updR, hq]

theorem l03FoldedT_s (p : Int) (n : Nat) (U T Z C S R : Nat → Int) (hV : HV p n U T Z C S) (hR : isU8 64 R) (hRz : ∀ a m, a < 8 → m < 8 → n ≤ m → partF R 8 a m = 0) (i : Nat) (hi : i < n) :
    Spec Try.prog 96 [hopV p n U T Z C S, .int .i64 i, .ints .u8 64 R, .bool true] [] (Ret (.ints .u8 8 fun y => foldT p n T C R true i n y % p)) := by
  have hn := hV.a.hn
  have hp := hV.a.hp
  have hT := hV.hT
  have hidx : (i : Int).toNat = i := by omega
  refine Spec.ret rfl (Spec.of_vc tabOK tabEq Try.func96 rfl (by kernel_rfl) rfl rfl ?_)
  refine And.intro trivial (Spec.mono (l03Algebra_s p n U T Z C S) ?_)
  rintro r m ⟨rfl, rfl⟩
  (repeat (first | refine And.intro (by omega) ?_ | refine And.intro ⟨by omega, by omega⟩ ?_))
  refine LoopVC.of (fun j : Nat => j ≤ n) (fun j => [(1, .int .i64 i), (3, .bool true), (4, .ptr 0 [] 0 0), (6, .ptr 1 [] 0 0), (8, .ptr 2 [] 0 0), (9, .ptr 3 [] 0 0), (10, .ptr 4 [] 0 0), (11, .int .i64 j)])
    (fun j => [some (hopV p n U T Z C S, 1106), some (.ints .u8 64 R, 64), some (.ints .u8 8 fun _ => 0, 8), some (.ints .u8 8 fun y => foldT p n T C R true i j y % p, 8), some (algV p n U T, 522)]) (fun j => n - j) 0 (by omega) ?_ ?_ ?_
  · exact (And.intro rfl (And.intro rfl (And.intro rfl (And.intro rfl (And.intro rfl (And.intro rfl (And.intro rfl (And.intro rfl (trivial)))))))))
  · exact And.intro (And.intro (hopR p n U T Z C S) rfl) (And.intro (And.intro (rowEq fun _ _ => rfl) rfl) (And.intro (And.intro (rowEq fun _ _ => rfl) rfl) (And.intro (And.intro (rowEq fun q hq => by show updR _ 0 8 _ q = _; simp [updR, hq, foldT, sumN]) rfl) (And.intro (And.intro (algR p n U T) rfl) trivial))))
  · intro j hj
    refine ifVC_split (fun h => ?_) (fun h => ?_)
    · have hltj := of_decide_eq_true h
      have hjdx : (j : Int).toNat = j := by omega
      refine LoopVC.of (fun k : Nat => k ≤ n) (fun k => [(1, .int .i64 i), (3, .bool true), (4, .ptr 0 [] 0 0), (6, .ptr 1 [] 0 0), (8, .ptr 2 [] 0 0), (9, .ptr 3 [] 0 0), (10, .ptr 4 [] 0 0), (11, .int .i64 j), (12, .int .i64 k)])
        (fun k => [some (hopV p n U T Z C S, 1106), some (.ints .u8 64 R, 64), some (.ints .u8 8 fun _ => 0, 8), some (.ints .u8 8 fun y => (foldT p n T C R true i j y + foldN p T C R true i j k y) % p, 8), some (algV p n U T, 522)]) (fun k => n - k) 0 (by omega) ?_ ?_ ?_
      · exact (And.intro rfl (And.intro rfl (And.intro rfl (And.intro rfl (And.intro rfl (And.intro rfl (And.intro rfl (And.intro rfl (And.intro rfl (trivial))))))))))
      · exact And.intro (And.intro (hopR p n U T Z C S) rfl) (And.intro (And.intro (rowEq fun _ _ => rfl) rfl) (And.intro (And.intro (rowEq fun _ _ => rfl) rfl) (And.intro (And.intro (rowEq fun q hq => by simp [foldN, sumN]) rfl) (And.intro (And.intro (algR p n U T) rfl) trivial))))
      · intro k hk
        refine ifVC_split (fun h => ?_) (fun h => ?_)
        · have hltk := of_decide_eq_true h
          have hkdx : (k : Int).toNat = k := by omega
          have hcv : C ((k : Int).toNat * 1 + ((j : Int).toNat * 8 + ((i : Int).toNat * 64 + 0))) = vecT C i j k := by rw [hjdx, hidx, hkdx]; unfold vecT; congr 1; omega
          have hcb := vec_u8 hV.hC (show i < 8 by omega) (show j < 8 by omega) (show k < 8 by omega)
          (repeat (first | refine And.intro (by omega) ?_ | refine And.intro ⟨by omega, by omega⟩ ?_))
          have hcw : IntKind.i64.wrap (C ((k : Int).toNat * 1 + ((j : Int).toNat * 8 + ((i : Int).toNat * 64 + 0)))) = vecT C i j k := by rw [hcv]; exact wrapI (by omega)
          refine ifVC_split (fun hc => ?_) (fun hc => ?_)
          · refine Exists.intro 8 (And.intro (by kernel_rfl) ?_)
            (repeat (first | refine And.intro (by omega) ?_ | refine And.intro ⟨by omega, by omega⟩ ?_))
            refine Exists.intro (.ints .u8 8 (unitV k)) (And.intro (And.intro rfl (And.intro rfl (Spec.mono (l01Basis_s k (by omega)) fun r m h => by rw [hkdx] at h; exact h.1))) ?_)
            refine Exists.intro (.ints .u8 8 fun y => timS p n T (partF R 8 j) (unitV k) n y % p) (And.intro (And.intro rfl (And.intro rfl ?_)) ?_)
            · refine Spec.mono (l01Times_s p n U T _ _ hp hn hT (fun q hq => hR _ (by omega)) (unitV_u8 k 8)) ?_
              rintro r m ⟨rfl, _⟩
              rw [hjdx]
              rfl
            (repeat (first | refine And.intro (by omega) ?_ | refine And.intro ⟨by omega, by omega⟩ ?_))
            refine Exists.intro 7 (And.intro (by kernel_rfl) ?_)
            (repeat (first | refine And.intro (by omega) ?_ | refine And.intro ⟨by omega, by omega⟩ ?_))
            refine Exists.intro (.ints .u8 8 (unitV j)) (And.intro (And.intro rfl (And.intro rfl (Spec.mono (l01Basis_s j (by omega)) fun r m h => by rw [hjdx] at h; exact h.1))) ?_)
            (repeat (first | refine And.intro (by omega) ?_ | refine And.intro ⟨by omega, by omega⟩ ?_))
            refine Exists.intro (.ints .u8 8 fun y => timS p n T (unitV j) (partF R 8 k) n y % p) (And.intro (And.intro rfl (And.intro rfl ?_)) ?_)
            · refine Spec.mono (l01Times_s p n U T _ _ hp hn hT (unitV_u8 j 8) (fun q hq => hR _ (by omega))) ?_
              rintro r m ⟨rfl, _⟩
              rw [hkdx]
              rfl
            have hrow : ∀ y, y < 8 → timS p n T (unitV j) (partF R 8 k) n y % p = owF p T R true j k y := fun y hy => prod_eq hV.a (fun m h1 h2 => unitV_ne (by omega)) (fun m h1 h2 => hRz k m (by omega) h2 h1) hy
            (repeat (first | refine And.intro (by omega) ?_ | refine And.intro ⟨by omega, by omega⟩ ?_))
            refine And.intro trivial (Spec.mono (l01Add_s p _ _ _ hp (by rw [hcw]; omega) (fun q hq => modB hp) (fun q hq => by simp only [updR]; rw [if_pos (by omega)]; exact modB hp)) ?_)
            rintro r m ⟨rfl, rfl⟩
            (repeat (first | refine And.intro (by omega) ?_ | refine And.intro ⟨by omega, by omega⟩ ?_))
            refine Exists.intro (k + 1) (And.intro (by omega) (And.intro (by omega) (And.intro (And.intro rfl (And.intro rfl (And.intro rfl (And.intro rfl (And.intro rfl (And.intro rfl (And.intro rfl (And.intro rfl (And.intro (slotI (wrapS (by omega))) trivial))))))))) ?_)))
            refine And.intro (And.intro (hopR p n U T Z C S) rfl) (And.intro (And.intro (rowEq fun _ _ => rfl) rfl) (And.intro (And.intro (rowEq fun _ _ => rfl) rfl) (And.intro (And.intro (rowEq fun q hq => ?_) rfl) (And.intro (And.intro (algR p n U T) rfl) trivial))))
            have e := hrow q hq
            show updR _ 0 8 _ q = (foldT p n T C R true i j q + (foldN p T C R true i j k q + vecT C i j k * owF p T R true j k q)) % p
            simp only [updR, Nat.zero_le, true_and, Nat.zero_add, hq, if_true, Nat.sub_zero, addM, Nat.add_zero]
            simp only [Nat.add_zero] at hcw
            rw [hcw, e, mod_add, Int.add_assoc]
          · have hc : vecT C i j k = 0 := by rw [← hcw]; simpa using hc
            refine Exists.intro (k + 1) (And.intro (by omega) (And.intro (by omega) (And.intro (And.intro rfl (And.intro rfl (And.intro rfl (And.intro rfl (And.intro rfl (And.intro rfl (And.intro rfl (And.intro rfl (And.intro (slotI (wrapS (by omega))) trivial))))))))) ?_)))
            refine And.intro (And.intro (hopR p n U T Z C S) rfl) (And.intro (And.intro (rowEq fun _ _ => rfl) rfl) (And.intro (And.intro (rowEq fun _ _ => rfl) rfl) (And.intro (And.intro (rowEq fun q hq => ?_) rfl) (And.intro (And.intro (algR p n U T) rfl) trivial))))
            show _ = (foldT p n T C R true i j q + (foldN p T C R true i j k q + vecT C i j k * owF p T R true j k q)) % p
            rw [hc]
            simp
        · have hge := of_decide_eq_false h
          obtain rfl : k = n := by omega
          refine Exists.intro (j + 1) (And.intro (by omega) (And.intro (by omega) (And.intro (And.intro rfl (And.intro rfl (And.intro rfl (And.intro rfl (And.intro rfl (And.intro rfl (And.intro rfl (And.intro (slotI (wrapS (by omega))) trivial)))))))) ?_)))
          exact And.intro (And.intro (hopR p k U T Z C S) rfl) (And.intro (And.intro (rowEq fun _ _ => rfl) rfl) (And.intro (And.intro (rowEq fun _ _ => rfl) rfl) (And.intro (And.intro (rowEq fun q hq => rfl) rfl) (And.intro (And.intro (algR p k U T) rfl) trivial))))
    · have hge := of_decide_eq_false h
      obtain rfl : j = n := by omega
      (repeat (first | refine And.intro (by omega) ?_ | refine And.intro ⟨by omega, by omega⟩ ?_))
      refine rowEq fun q hq => ?_
      show updR _ 0 8 _ q = _
      simp [updR, hq]
end Go.Proofs.Ytegcfjfhpodlmaa
