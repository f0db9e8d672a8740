/- Texts in one: Hop2, Hop3, Hop4, Hop5, Hop6, Hop6c, Hop7, OpenHop, Mod1, Mod2, Mod3, Mod3b, Mod4, OpenMod, Subm. -/
import Derived.Test.YtjanlnngeklhoabGreatPf
import Derived.Test.YtjanlnngeklhoabGreatPe
import Derived.Test.YtjanlnngeklhoabGreatPd
set_option linter.unusedSimpArgs false
set_option linter.unusedVariables false
set_option linter.unusedSectionVars false
/- Products of pairs and convolutions, as the program reckons them. -/
set_option linter.unusedVariables false
set_option linter.unusedSimpArgs false
set_option maxRecDepth 100000
set_option maxHeartbeats 1000000
namespace Go.Proofs.YtjanlnngeklhoabGreat
open M

/-! ### products of tables of two vectors -/
/-- the product of the row a of F and the row b of G -/
def pw (p : Int) (T F G : Nat → Int) (a b : Nat) : Nat → Int := prodF p T (partF F 8 a) (partF G 8 b)
def pairN (p : Int) (T F G : Nat → Int) (a n q : Nat) : Int := sumN n fun b => vecT T a b (q / 8) * pw p T F G a b (q % 8)
def pairT (p : Int) (T F G : Nat → Int) (m n q : Nat) : Int := sumN m fun a => pairN p T F G a n q
def pairsF (p : Int) (T F G : Nat → Int) : Nat → Int := fun q => pairT p T F G 8 8 q % p

theorem pw_u8 {p : Int} (hp : 0 < p ∧ p < 256) (T F G : Nat → Int) (a b n : Nat) : isU8 n (pw p T F G a b) := fun q _ => modB hp
theorem mod_add (p a b : Int) : (a % p + b) % p = (a + b) % p := Int.emod_add_emod a p b

theorem productOfPairs_s (p n : Int) (U T F G : Nat → Int) (hp : 0 < p ∧ p < 256) (hT : isU8 512 T) (hF : isU8 64 F) (hG : isU8 64 G) :
    Spec Tryz.prog 103 [algV p n U T, .ints .u8 64 F, .ints .u8 64 G] [] (Ret (.ints .u8 64 (pairsF p T F G))) := by
  refine Spec.ret rfl (Spec.of_vc tabOK tabEq Tryz.func103 rfl (by kernel_rfl) rfl rfl ?_)
  (repeat (first | refine And.intro (by omega) ?_ | refine And.intro ⟨by omega, by omega⟩ ?_))
  refine LoopVC.of (fun j : Nat => j ≤ 8) (fun j => [(3, .ptr 0 [] 0 0), (5, .ptr 2 [] 0 0), (6, .ptr 3 [] 0 0), (7, .ptr 4 [] 0 0), (13, .ints .u8 64 F), (14, .int .i64 j)])
    (fun j => [some (algV p n U T, 522), none, some (.ints .u8 64 G, 64), some (.ints .u8 64 fun _ => 0, 64), some (.ints .u8 64 fun q => pairT p T F G j 8 q % p, 64)]) (fun j => 8 - j) 0 (by omega) ?_ ?_ ?_
  · exact And.intro rfl (And.intro rfl (And.intro rfl (And.intro rfl (And.intro (rowEq fun _ _ => rfl) (And.intro rfl trivial)))))
  · exact And.intro (And.intro (algR p n U T) rfl) (And.intro (And.intro (rowEq fun _ _ => rfl) rfl) (And.intro (And.intro (rowEq fun _ _ => rfl) rfl) (And.intro (And.intro (rowEq fun q _ => by simp [pairT, sumN]) rfl) trivial)))
  · intro j hj
    refine ifVC_split (fun h => ?_) (fun h => ?_)
    · have hltj := of_decide_eq_true h
      have hjdx : (j : Int).toNat = j := by omega
      have hFj : isU8 8 (partF F 8 j) := fun i hi => hF _ (by omega)
      (repeat (first | refine And.intro (by omega) ?_ | refine And.intro ⟨by omega, by omega⟩ ?_))
      have hq : allEq 8 (fun q => updR (fun _ => 0) 0 8 (fun q => F (q + (j : Int).toNat * 8)) (q + 0)) (fun _ => 0) = allEq 8 (partF F 8 j) (fun _ => 0) := allEq_congr (fun q hq => by rw [hjdx]; simp [updR, hq, partF]) fun _ _ => rfl
      refine ifVC_split (fun hz => ?_) (fun hz => ?_)
      · have hz : allEq 8 (partF F 8 j) (fun _ => 0) = true := by rw [← hq]; exact hz
        refine Exists.intro (j + 1) (And.intro (by omega) (And.intro (by omega) (And.intro (And.intro rfl (And.intro rfl (And.intro rfl (And.intro rfl (And.intro (rowEq fun _ _ => rfl) (And.intro (slotI (wrapS (by omega))) trivial)))))) ?_)))
        refine And.intro (And.intro (algR p n U T) rfl) (And.intro (And.intro (rowEq fun _ _ => rfl) rfl) (And.intro (And.intro (rowEq fun _ _ => rfl) rfl) (And.intro (And.intro (rowEq fun q hq => ?_) rfl) trivial)))
        show pairT p T F G j 8 q % p = (pairT p T F G j 8 q + pairN p T F G j 8 q) % p
        have : pairN p T F G j 8 q = 0 := by
          unfold pairN pw
          exact sumN_none 8 fun b hb => by rw [prodF_none fun i hi => allEq_get hz hi]; simp
        rw [this, Int.add_zero]
      · have hV : ∀ i, i < 8 → updR (fun _ => 0) 0 8 (fun q => F (q + (j : Int).toNat * 8)) (i + 0) = partF F 8 j i := fun i hi => by rw [hjdx]; simp [updR, hi, partF]
        (repeat (first | refine And.intro (by omega) ?_ | refine And.intro ⟨by omega, by omega⟩ ?_))
        refine And.intro trivial (Spec.mono (leftTable_s p n U T _ hp hT (fun i hi => by rw [hV i hi]; exact hFj i hi)) ?_)
        rintro r m ⟨rfl, rfl⟩
        (repeat (first | refine And.intro (by omega) ?_ | refine And.intro ⟨by omega, by omega⟩ ?_))
        have hL : ∀ q, leftT p T (fun i => updR (fun _ => 0) 0 8 (fun q => F (q + (j : Int).toNat * 8)) (i + 0)) q = leftT p T (partF F 8 j) q := fun q => by
          unfold leftT rightF
          rw [linS_congr 8 fun i hi => by rw [hV i hi]]
        refine LoopVC.of (fun l : Nat => l ≤ 8) (fun l => [(3, .ptr 0 [] 0 0), (5, .ptr 2 [] 0 0), (6, .ptr 3 [] 0 0), (7, .ptr 4 [] 0 0), (8, .int .i64 j), (10, .ptr 6 [] 0 0), (13, .ints .u8 64 F), (14, .int .i64 j), (24, .ints .u8 64 G), (25, .int .i64 l)])
          (fun l => [some (algV p n U T, 522), none, some (.ints .u8 64 G, 64), some (.ints .u8 64 fun _ => 0, 64), some (.ints .u8 64 fun q => (pairT p T F G j 8 q + pairN p T F G j l q) % p, 64), none, some (.ints .u8 64 (leftT p T (partF F 8 j)), 64)]) (fun l => 8 - l) 0 (by omega) ?_ ?_ ?_
        · exact And.intro rfl (And.intro rfl (And.intro rfl (And.intro rfl (And.intro rfl (And.intro rfl (And.intro (rowEq fun _ _ => rfl) (And.intro rfl (And.intro (rowEq fun _ _ => rfl) (And.intro rfl trivial)))))))))
        · exact And.intro (And.intro (algR p n U T) rfl) (And.intro (And.intro (rowEq fun _ _ => rfl) rfl) (And.intro (And.intro (rowEq fun _ _ => rfl) rfl) (And.intro (And.intro (rowEq fun q _ => by simp [pairN, sumN]) rfl) (And.intro (And.intro (rowEq fun q hq => (upd0 hq).trans (hL q)) rfl) trivial))))
        · intro l hl
          refine ifVC_split (fun h => ?_) (fun h => ?_)
          · have hltl := of_decide_eq_true h
            have hldx : (l : Int).toNat = l := by omega
            have hGl : isU8 8 (partF G 8 l) := fun i hi => hG _ (by omega)
            (repeat (first | refine And.intro (by omega) ?_ | refine And.intro ⟨by omega, by omega⟩ ?_))
            refine Exists.intro 15 (And.intro (by kernel_rfl) ?_)
            (repeat (first | refine And.intro (by omega) ?_ | refine And.intro ⟨by omega, by omega⟩ ?_))
            have hW : ∀ i, i < 8 → updR (fun _ => 0) 0 8 (fun q => G (q + (l : Int).toNat * 8)) (i + 0) = partF G 8 l i := fun i hi => by rw [hldx]; simp [updR, hi, partF]
            refine Exists.intro (.ints .u8 8 (pw p T F G j l)) (And.intro (And.intro rfl (And.intro rfl ?_)) ?_)
            · refine Spec.mono (apply_s p _ _ hp (fun q _ => modB hp) (fun i hi => by rw [hW i hi]; exact hGl i hi)) ?_
              rintro r m ⟨rfl, _⟩
              refine congrArg (SV.ints .u8 8) (funext fun y => ?_)
              show _ = linS (leftT p T (partF F 8 j)) (partF G 8 l) 8 y % p
              refine congrArg (· % p) (linS_congr 8 fun i hi => ?_)
              rw [hW i hi]
              rfl
            refine Exists.intro (.ints .u8 64 fun q => (pairT p T F G j 8 q + pairN p T F G j (l + 1) q) % p) (And.intro (And.intro rfl (And.intro rfl ?_)) ?_)
            · refine Spec.mono (addTensor_s p _ _ _ hp (fun q _ => ⟨Int.emod_nonneg _ (by omega), Int.emod_lt_of_pos _ hp.1⟩) (fun i hi => hT _ (by omega)) (pw_u8 hp T F G j l 8)) ?_
              rintro r m ⟨rfl, _⟩
              refine congrArg (SV.ints .u8 64) (funext fun q => ?_)
              unfold addTen
              rw [mod_add, Int.add_assoc]
              refine congrArg (fun z => (pairT p T F G j 8 q + (pairN p T F G j l q + z * pw p T F G j l (q % 8))) % p) ?_
              first
                | rfl
                | (show T _ = T _; congr 1; omega)
            (repeat (first | refine And.intro (by omega) ?_ | refine And.intro ⟨by omega, by omega⟩ ?_))
            refine Exists.intro (l + 1) (And.intro (by omega) (And.intro (by omega) (And.intro (And.intro rfl (And.intro rfl (And.intro rfl (And.intro rfl (And.intro rfl (And.intro rfl (And.intro (rowEq fun _ _ => rfl) (And.intro rfl (And.intro (rowEq fun _ _ => rfl) (And.intro (slotI (wrapS (by omega))) trivial)))))))))) ?_)))
            exact And.intro (And.intro (algR p n U T) rfl) (And.intro (And.intro (rowEq fun _ _ => rfl) rfl) (And.intro (And.intro (rowEq fun _ _ => rfl) rfl) (And.intro (And.intro (rowEq fun q hq => by show updR _ 0 64 _ q = _; simp [updR, hq]) rfl) (And.intro (And.intro (rowEq fun _ _ => rfl) rfl) trivial))))
          · have hge := of_decide_eq_false h
            obtain rfl : l = 8 := by omega
            refine Exists.intro (j + 1) (And.intro (by omega) (And.intro (by omega) (And.intro (And.intro rfl (And.intro rfl (And.intro rfl (And.intro rfl (And.intro (rowEq fun _ _ => rfl) (And.intro (slotI (wrapS (by omega))) trivial)))))) ?_)))
            exact And.intro (And.intro (algR p n U T) rfl) (And.intro (And.intro (rowEq fun _ _ => rfl) rfl) (And.intro (And.intro (rowEq fun _ _ => rfl) rfl) (And.intro (And.intro (rowEq fun q hq => rfl) rfl) trivial)))
    · have hge := of_decide_eq_false h
      obtain rfl : j = 8 := by omega
      (repeat (first | refine And.intro (by omega) ?_ | refine And.intro ⟨by omega, by omega⟩ ?_))
      refine rowEq fun q hq => ?_
      show updR _ 0 64 _ q = _
      simp [updR, hq, pairsF]

/-! ### convolutions -/
/-- the part of the convolution that the leg b gives at the row i -/
def cw (p : Int) (T C F G : Nat → Int) (i b : Nat) : Nat → Int := prodF p T (partF F 8 b) (fun y => linS G (vecT C i b) 8 y % p)
def convN (p : Int) (T C F G : Nat → Int) (i m y : Nat) : Int := sumN m fun b => cw p T C F G i b y
def convF (p : Int) (n : Nat) (T C F G : Nat → Int) : Nat → Int := fun q => if q / 8 < n then convN p T C F G (q / 8) n (q % 8) % p else 0

theorem convolution_s (p : Int) (n : Nat) (n' : Int) (Z C U T F G : Nat → Int) (hp : 0 < p ∧ p < 256) (hn : n ≤ 8) (hC : isU8 512 C) (hT : isU8 512 T) (hF : isU8 64 F) (hG : isU8 64 G) :
    Spec Tryz.prog 107 [algV p n Z C, algV p n' U T, .ints .u8 64 F, .ints .u8 64 G] [] (Ret (.ints .u8 64 (convF p n T C F G))) := by
  refine Spec.ret rfl (Spec.of_vc tabOK tabEq Tryz.func107 rfl (by kernel_rfl) rfl rfl ?_)
  (repeat (first | refine And.intro (by omega) ?_ | refine And.intro ⟨by omega, by omega⟩ ?_))
  refine LoopVC.of (fun j : Nat => j ≤ n) (fun j => [(4, .ptr 0 [] 0 0), (5, .ptr 1 [] 0 0), (6, .ptr 2 [] 0 0), (7, .ptr 3 [] 0 0), (8, .ptr 4 [] 0 0), (9, .ptr 5 [] 0 0), (15, .int .i64 n), (16, .int .i64 j)])
    (fun j => [some (algV p n Z C, 522), some (algV p n' U T, 522), some (.ints .u8 64 F, 64), some (.ints .u8 64 G, 64), some (.ints .u8 64 fun _ => 0, 64), some (.ints .u8 64 fun q => if q / 8 < n then convN p T C F G (q / 8) j (q % 8) % p else 0, 64)]) (fun j => n - j) 0 (by omega) ?_ ?_ ?_
  · exact (And.intro rfl (And.intro rfl (And.intro rfl (And.intro rfl (And.intro rfl (And.intro rfl (And.intro rfl (And.intro rfl (trivial)))))))))
  · exact And.intro (And.intro (algR p n Z C) rfl) (And.intro (And.intro (algR p n' U T) rfl) (And.intro (And.intro (rowEq fun _ _ => rfl) rfl) (And.intro (And.intro (rowEq fun _ _ => rfl) rfl) (And.intro (And.intro (rowEq fun _ _ => rfl) rfl) (And.intro (And.intro (rowEq fun q _ => by simp [convN, sumN]) rfl) trivial)))))
  · intro j hj
    refine ifVC_split (fun h => ?_) (fun h => ?_)
    · have hltj := of_decide_eq_true h
      have hjdx : (j : Int).toNat = j := by omega
      have hFj : isU8 8 (partF F 8 j) := fun i hi => hF _ (by omega)
      refine Exists.intro 6 (And.intro (by kernel_rfl) ?_)
      (repeat (first | refine And.intro (by omega) ?_ | refine And.intro ⟨by omega, by omega⟩ ?_))
      refine Exists.intro (.ints .u8 64 (leftT p T (partF F 8 j))) (And.intro (And.intro rfl (And.intro rfl ?_)) ?_)
      · refine Spec.mono (leftTable_s p n' U T _ hp hT (fun i hi => hF _ (by omega))) ?_
        rintro r m ⟨rfl, _⟩
        rw [hjdx]
        rfl
      (repeat (first | refine And.intro (by omega) ?_ | refine And.intro ⟨by omega, by omega⟩ ?_))
      refine LoopVC.of (fun i : Nat => i ≤ n) (fun i => [(4, .ptr 0 [] 0 0), (5, .ptr 1 [] 0 0), (6, .ptr 2 [] 0 0), (7, .ptr 3 [] 0 0), (8, .ptr 4 [] 0 0), (9, .ptr 5 [] 0 0), (10, .int .i64 j), (11, .ptr 6 [] 0 0), (15, .int .i64 n), (16, .int .i64 j), (25, .int .i64 n), (26, .int .i64 i)])
        (fun i => [some (algV p n Z C, 522), some (algV p n' U T, 522), some (.ints .u8 64 F, 64), some (.ints .u8 64 G, 64), some (.ints .u8 64 fun _ => 0, 64), some (.ints .u8 64 fun q => if q / 8 < i then convN p T C F G (q / 8) (j + 1) (q % 8) % p else if q / 8 < n then convN p T C F G (q / 8) j (q % 8) % p else 0, 64), some (.ints .u8 64 (leftT p T (partF F 8 j)), 64)]) (fun i => n - i) 0 (by omega) ?_ ?_ ?_
      · exact (And.intro rfl (And.intro rfl (And.intro rfl (And.intro rfl (And.intro rfl (And.intro rfl (And.intro rfl (And.intro rfl (And.intro rfl (And.intro rfl (And.intro rfl (And.intro rfl (trivial)))))))))))))
      · exact And.intro (And.intro (algR p n Z C) rfl) (And.intro (And.intro (algR p n' U T) rfl) (And.intro (And.intro (rowEq fun _ _ => rfl) rfl) (And.intro (And.intro (rowEq fun _ _ => rfl) rfl) (And.intro (And.intro (rowEq fun _ _ => rfl) rfl) (And.intro (And.intro (rowEq fun q _ => by simp) rfl) (And.intro (And.intro (rowEq fun q hq => by first | rfl | (show updR _ 0 64 _ q = _; simp [updR, hq])) rfl) trivial))))))
      · intro i hi
        refine ifVC_split (fun h => ?_) (fun h => ?_)
        · have hlti := of_decide_eq_true h
          have hidx : (i : Int).toNat = i := by omega
          refine Exists.intro 11 (And.intro (by kernel_rfl) ?_)
          (repeat (first | refine And.intro (by omega) ?_ | refine And.intro ⟨by omega, by omega⟩ ?_))
          refine Exists.intro (.ints .u8 8 fun y => linS G (vecT C i j) 8 y % p) (And.intro (And.intro rfl (And.intro rfl ?_)) ?_)
          · refine Spec.mono (apply_s p _ _ hp (fun q hq => hG _ (by omega)) (fun q hq => hC _ (by omega))) ?_
            rintro r m ⟨rfl, _⟩
            refine congrArg (SV.ints .u8 8) (funext fun y => congrArg (· % p) (linS_congr 8 fun a ha => ?_))
            rw [hidx, hjdx]
            rfl
          have hout : ∀ q, q < 64 → 0 ≤ (fun q => if q / 8 < i then convN p T C F G (q / 8) (j + 1) (q % 8) % p else if q / 8 < n then convN p T C F G (q / 8) j (q % 8) % p else 0) q ∧ (fun q => if q / 8 < i then convN p T C F G (q / 8) (j + 1) (q % 8) % p else if q / 8 < n then convN p T C F G (q / 8) j (q % 8) % p else 0) q < p := fun q hq => by
            dsimp only
            split
            · exact modP hp
            · split
              · exact modP hp
              · omega
          (repeat (first | refine And.intro (by omega) ?_ | refine And.intro ⟨by omega, by omega⟩ ?_))
          refine Exists.intro 13 (And.intro (by kernel_rfl) ?_)
          (repeat (first | refine And.intro (by omega) ?_ | refine And.intro ⟨by omega, by omega⟩ ?_))
          refine Exists.intro (.ints .u8 8 (cw p T C F G i j)) (And.intro (And.intro rfl (And.intro rfl ?_)) ?_)
          · refine Spec.mono (apply_s p _ _ hp (fun q hq => modB hp) (fun q hq => by simp only [updR]; rw [if_pos (by omega)]; exact modB hp)) ?_
            rintro r m ⟨rfl, _⟩
            refine congrArg (SV.ints .u8 8) (funext fun y => congrArg (· % p) (linS_congr 8 fun a ha => ?_))
            have e : updR (fun _ => 0) 0 8 (fun y => linS G (vecT C i j) 8 y % p) (a + 0) = linS G (vecT C i j) 8 a % p := by simp [updR, ha]
            rw [e]
            rfl
          refine Exists.intro (.ints .u8 8 _) (And.intro (And.intro rfl (And.intro rfl (Spec.mono (addMultiple_s p _ _ _ hp (by omega) (fun q hq => hout _ (by omega)) (fun q _ => modB hp)) fun r m h => h.1))) ?_)
          (repeat (first | refine And.intro (by omega) ?_ | refine And.intro ⟨by omega, by omega⟩ ?_))
          refine Exists.intro (i + 1) (And.intro (by omega) (And.intro (by omega) (And.intro (And.intro rfl (And.intro rfl (And.intro rfl (And.intro rfl (And.intro rfl (And.intro rfl (And.intro rfl (And.intro rfl (And.intro rfl (And.intro rfl (And.intro rfl (And.intro (slotI (wrapS (by omega))) trivial)))))))))))) ?_)))
          refine And.intro (And.intro (algR p n Z C) rfl) (And.intro (And.intro (algR p n' U T) rfl) (And.intro (And.intro (rowEq fun _ _ => rfl) rfl) (And.intro (And.intro (rowEq fun _ _ => rfl) rfl) (And.intro (And.intro (rowEq fun _ _ => rfl) rfl) (And.intro (And.intro (rowEq fun q hq => ?_) rfl) (And.intro (And.intro (rowEq fun _ _ => rfl) rfl) trivial))))))
          show updR _ ((i : Int).toNat * 8 + 0) 8 _ q = _
          unfold updR
          rw [hidx]
          by_cases h1 : i * 8 + 0 ≤ q ∧ q < i * 8 + 0 + 8
          · rw [if_pos h1, if_pos (by omega)]
            unfold addM
            dsimp only
            rw [show q - (i * 8 + 0) + (i * 8 + 0) = q by omega, if_neg (show ¬ q / 8 < i by omega), if_pos (show q / 8 < n by omega), mod_add, Int.one_mul]
            rw [show q / 8 = i by omega, show q - (i * 8 + 0) = q % 8 by omega]
            rfl
          · rw [if_neg h1]
            dsimp only
            by_cases h2 : q / 8 < i
            · rw [if_pos h2, if_pos (show q / 8 < i + 1 by omega)]
            · rw [if_neg h2, if_neg (show ¬ q / 8 < i + 1 by omega)]
        · have hge := of_decide_eq_false h
          obtain rfl : i = n := by omega
          refine Exists.intro (j + 1) (And.intro (by omega) (And.intro (by omega) (And.intro (And.intro rfl (And.intro rfl (And.intro rfl (And.intro rfl (And.intro rfl (And.intro rfl (And.intro rfl (And.intro (slotI (wrapS (by omega))) trivial)))))))) ?_)))
          refine And.intro (And.intro (algR p i Z C) rfl) (And.intro (And.intro (algR p n' U T) rfl) (And.intro (And.intro (rowEq fun _ _ => rfl) rfl) (And.intro (And.intro (rowEq fun _ _ => rfl) rfl) (And.intro (And.intro (rowEq fun _ _ => rfl) rfl) (And.intro (And.intro (rowEq fun q hq => ?_) rfl) trivial)))))
          by_cases h2 : q / 8 < i
          · rw [if_pos h2, if_pos h2]
          · rw [if_neg h2, if_neg h2, if_neg h2]
    · have hge := of_decide_eq_false h
      obtain rfl : j = n := by omega
      (repeat (first | refine And.intro (by omega) ?_ | refine And.intro ⟨by omega, by omega⟩ ?_))
      refine rowEq fun q hq => ?_
      show updR _ 0 64 _ q = _
      simp [updR, hq, convF]
end Go.Proofs.YtjanlnngeklhoabGreat

/- The axioms of Hopf algebras, as the program checks them, and the search for the first that fails. -/
set_option linter.unusedVariables false
set_option linter.unusedSimpArgs false
set_option maxRecDepth 100000
set_option maxHeartbeats 1000000
namespace Go.Proofs.YtjanlnngeklhoabGreat
open M

def ax3 (p : Int) (T C : Nat → Int) (i j : Nat) : Bool := allEq 64 (leftT p C (vecT T i j)) (pairsF p T (partF C 64 i) (partF C 64 j))
def ax4B (p : Int) (U C : Nat → Int) : Bool := allEq 64 (leftT p C U) (tenF p U U)
def ax5 (p : Int) (T Z : Nat → Int) (i j : Nat) : Bool := cnt p Z (vecT T i j) == Z i * Z j % p
def ax6B (p : Int) (n : Nat) (U T Z C S : Nat → Int) : Bool := allEq 64 (convF p n T C S (idF n)) (tenF p Z U)
def ax7B (p : Int) (n : Nat) (U T Z C S : Nat → Int) : Bool := allEq 64 (convF p n T C (idF n) S) (tenF p Z U)
def all2 (n : Nat) (f : Nat → Nat → Bool) : Bool := (List.range n).all fun i => (List.range n).all (f i)
theorem all2_yes {n : Nat} {f : Nat → Nat → Bool} (h : ∀ i j, i < n → j < n → f i j = true) : all2 n f = true :=
  List.all_eq_true.2 fun i hi => List.all_eq_true.2 fun j hj => h i j (List.mem_range.1 hi) (List.mem_range.1 hj)
theorem all2_get {n : Nat} {f : Nat → Nat → Bool} (h : all2 n f = true) {i j : Nat} (hi : i < n) (hj : j < n) : f i j = true :=
  List.all_eq_true.1 (List.all_eq_true.1 h i (List.mem_range.2 hi)) j (List.mem_range.2 hj)
theorem all2_no {n : Nat} {f : Nat → Nat → Bool} {i j : Nat} (hi : i < n) (hj : j < n) (h : f i j = false) : all2 n f = false := by
  cases hb : all2 n f with
  | false => rfl
  | true => rw [all2_get hb hi hj] at h; cases h

theorem vec_is (T : Nat → Int) (i j : Nat) {a b : Nat} (ha : a = i) (hb : b = j) : (fun m => T (m + (b * 8 + (a * 64 + 0)))) = vecT T i j := by
  subst ha; subst hb; rfl
theorem row_is (C : Nat → Int) (i : Nat) {a : Nat} (ha : a = i) : (fun m => C (m + (a * 64 + 0))) = partF C 64 i := by
  subst ha; rfl
theorem part_u8 {n m k i : Nat} {F : Nat → Int} (h : isU8 n F) (hk : i * m + k ≤ n) : isU8 k (partF F m i) := fun j hj => h _ (by omega)
theorem vecT_u8 {T : Nat → Int} (hT : isU8 512 T) {i j : Nat} (hi : i < 8) (hj : j < 8) : isU8 8 (vecT T i j) := fun m hm => vec_u8 hT hi hj hm

section
variable (p : Int) (n : Nat) (U T Z C S : Nat → Int) (hV : HV p n U T Z C S)
include hV

theorem keepsProduct_s (i j : Nat) (hi : i < n) (hj : j < n) : Spec Tryz.prog 84 [hopV p n U T Z C S, .int .i64 i, .int .i64 j] [] (Ret (.bool (ax3 p T C i j))) := by
  have hn := hV.a.hn
  have hp := hV.a.hp
  have hidx : (i : Int).toNat = i := by omega
  have hjdx : (j : Int).toNat = j := by omega
  refine Spec.ret rfl (Spec.of_vc tabOK tabEq Tryz.func84 rfl (by kernel_rfl) rfl rfl ?_)
  refine Exists.intro 12 (And.intro (by kernel_rfl) ?_)
  refine Exists.intro (algV p n U T) (And.intro (And.intro rfl (And.intro rfl (Spec.mono (algebraOf_s p n U T Z C S) fun r m h => h.1))) ?_)
  (repeat (first | refine And.intro (by omega) ?_ | refine And.intro ⟨by omega, by omega⟩ ?_))
  refine Exists.intro (.ints .u8 64 (pairsF p T (partF C 64 i) (partF C 64 j))) (And.intro (And.intro rfl (And.intro rfl ?_)) ?_)
  · rw [row_is C i hidx, row_is C j hjdx]
    exact Spec.mono (productOfPairs_s p n U T _ _ hp hV.hT (part_u8 hV.hC (by omega)) (part_u8 hV.hC (by omega))) fun r m h => h.1
  (repeat (first | refine And.intro (by omega) ?_ | refine And.intro ⟨by omega, by omega⟩ ?_))
  refine Exists.intro 11 (And.intro (by kernel_rfl) ?_)
  refine Exists.intro (algV p n Z C) (And.intro (And.intro rfl (And.intro rfl (Spec.mono (coalgebraOf_s p n U T Z C S) fun r m h => h.1))) ?_)
  (repeat (first | refine And.intro (by omega) ?_ | refine And.intro ⟨by omega, by omega⟩ ?_))
  refine Exists.intro (.ints .u8 64 (leftT p C (vecT T i j))) (And.intro (And.intro rfl (And.intro rfl ?_)) ?_)
  · rw [vec_is T i j hidx hjdx]
    exact Spec.mono (coproduct_s p n Z C _ hp hV.hC (vecT_u8 hV.hT (by omega) (by omega))) fun r m h => h.1
  (repeat (first | refine And.intro (by omega) ?_ | refine And.intro ⟨by omega, by omega⟩ ?_))
  refine boolEq ?_
  refine allEq_congr (fun _ _ => rfl) fun q hq => ?_
  show updR _ 0 64 _ (q + 0) = _
  simp [updR, hq]

theorem keepsUnit_s (i j : Int) : Spec Tryz.prog 85 [hopV p n U T Z C S, .int .i64 i, .int .i64 j] [] (Ret (.bool (ax4B p U C))) := by
  have hp := hV.a.hp
  refine Spec.ret rfl (Spec.of_vc tabOK tabEq Tryz.func85 rfl (by kernel_rfl) rfl rfl ?_)
  refine Exists.intro 13 (And.intro (by kernel_rfl) ?_)
  refine Exists.intro (algV p n Z C) (And.intro (And.intro rfl (And.intro rfl (Spec.mono (coalgebraOf_s p n U T Z C S) fun r m h => h.1))) ?_)
  (repeat (first | refine And.intro (by omega) ?_ | refine And.intro ⟨by omega, by omega⟩ ?_))
  refine Exists.intro (.ints .u8 64 (leftT p C U)) (And.intro (And.intro rfl (And.intro rfl (Spec.mono (coproduct_s p n Z C _ hp hV.hC (fun q hq => hV.hU _ (by omega))) fun r m h => h.1))) ?_)
  (repeat (first | refine And.intro (by omega) ?_ | refine And.intro ⟨by omega, by omega⟩ ?_))
  refine Exists.intro (.ints .u8 64 (tenF p U U)) (And.intro (And.intro rfl (And.intro rfl (Spec.mono (tensor_s p _ _ hp (fun q hq => hV.hU _ (by omega)) (fun q hq => hV.hU _ (by omega))) fun r m h => h.1))) ?_)
  exact boolEq rfl

theorem hasCounitOfProduct_s (i j : Nat) (hi : i < n) (hj : j < n) : Spec Tryz.prog 86 [hopV p n U T Z C S, .int .i64 i, .int .i64 j] [] (Ret (.bool (ax5 p T Z i j && (cnt p Z U == 1)))) := by
  have hn := hV.a.hn
  have hp := hV.a.hp
  have hidx : (i : Int).toNat = i := by omega
  have hjdx : (j : Int).toNat = j := by omega
  refine Spec.ret rfl (Spec.of_vc tabOK tabEq Tryz.func86 rfl (by kernel_rfl) rfl rfl ?_)
  refine Exists.intro 15 (And.intro (by kernel_rfl) ?_)
  refine Exists.intro (algV p n Z C) (And.intro (And.intro rfl (And.intro rfl (Spec.mono (coalgebraOf_s p n U T Z C S) fun r m h => h.1))) ?_)
  (repeat (first | refine And.intro (by omega) ?_ | refine And.intro ⟨by omega, by omega⟩ ?_))
  refine Exists.intro 20 (And.intro (by kernel_rfl) ?_)
  (repeat (first | refine And.intro (by omega) ?_ | refine And.intro ⟨by omega, by omega⟩ ?_))
  refine Exists.intro (.int .i64 (cnt p Z (vecT T i j))) (And.intro (And.intro rfl (And.intro rfl ?_)) ?_)
  · rw [vec_is T i j hidx hjdx]
    exact Spec.mono (counit_s p n Z C _ hp hV.hZ (vecT_u8 hV.hT (by omega) (by omega))) fun r m h => h.1
  (repeat (first | refine And.intro (by omega) ?_ | refine And.intro ⟨by omega, by omega⟩ ?_))
  have zi := hV.hZ i (by omega)
  have zj := hV.hZ j (by omega)
  have zz := mulB zi zj
  have hb : IntKind.i64.wrap (IntKind.i64.wrap (Z ((i : Int).toNat * 1 + 0)) * IntKind.i64.wrap (Z ((j : Int).toNat * 1 + 0))) = Z i * Z j := by
    rw [show (i : Int).toNat * 1 + 0 = i by omega, show (j : Int).toNat * 1 + 0 = j by omega, wrapI (x := Z i) (by omega), wrapI (x := Z j) (by omega), wrapI (by omega)]
  have he : (cnt p Z (vecT T i j) == (IntKind.i64.wrap (IntKind.i64.wrap (Z ((i : Int).toNat * 1 + 0)) * IntKind.i64.wrap (Z ((j : Int).toNat * 1 + 0)))).tmod p) = ax5 p T Z i j := by
    rw [hb, Int.tmod_eq_emod_of_nonneg zz.1]
    rfl
  refine ifVC_split (fun hc => ?_) (fun hc => ?_)
  · have hc : ax5 p T Z i j = true := by rw [← he]; exact hc
    (repeat (first | refine And.intro (by omega) ?_ | refine And.intro ⟨by omega, by omega⟩ ?_))
    refine Exists.intro (.int .i64 (cnt p Z U)) (And.intro (And.intro rfl (And.intro rfl (Spec.mono (counit_s p n Z C _ hp hV.hZ (fun q hq => hV.hU _ (by omega))) fun r m h => h.1))) ?_)
    exact boolEq (by rw [hc, Bool.true_and])
  · have hc : ax5 p T Z i j = false := by rw [← he]; exact hc
    exact boolEq (by rw [hc, Bool.false_and])

theorem hasLeftAntipode_s (i j : Int) : Spec Tryz.prog 87 [hopV p n U T Z C S, .int .i64 i, .int .i64 j] [] (Ret (.bool (ax6B p n U T Z C S))) := by
  have hn := hV.a.hn
  have hp := hV.a.hp
  refine Spec.ret rfl (Spec.of_vc tabOK tabEq Tryz.func87 rfl (by kernel_rfl) rfl rfl ?_)
  refine Exists.intro 6 (And.intro (by kernel_rfl) ?_)
  refine Exists.intro (algV p n Z C) (And.intro (And.intro rfl (And.intro rfl (Spec.mono (coalgebraOf_s p n U T Z C S) fun r m h => h.1))) ?_)
  refine Exists.intro (algV p n U T) (And.intro (And.intro rfl (And.intro rfl (Spec.mono (algebraOf_s p n U T Z C S) fun r m h => h.1))) ?_)
  (repeat (first | refine And.intro (by omega) ?_ | refine And.intro ⟨by omega, by omega⟩ ?_))
  refine Exists.intro 16 (And.intro (by kernel_rfl) ?_)
  (repeat (first | refine And.intro (by omega) ?_ | refine And.intro ⟨by omega, by omega⟩ ?_))
  refine Exists.intro (.ints .u8 64 (idF n)) (And.intro (And.intro rfl (And.intro rfl (Spec.mono (identity_s n hn) fun r m h => h.1))) ?_)
  refine Exists.intro (.ints .u8 64 (convF p n T C S (idF n))) (And.intro (And.intro rfl (And.intro rfl (Spec.mono (convolution_s p n n Z C U T _ _ hp hn hV.hC hV.hT (fun q hq => hV.hS _ (by omega)) (idF_u8 n 64)) fun r m h => h.1))) ?_)
  (repeat (first | refine And.intro (by omega) ?_ | refine And.intro ⟨by omega, by omega⟩ ?_))
  refine Exists.intro (.ints .u8 64 (tenF p Z U)) (And.intro (And.intro rfl (And.intro rfl (Spec.mono (tensor_s p _ _ hp (fun q hq => hV.hZ _ (by omega)) (fun q hq => hV.hU _ (by omega))) fun r m h => h.1))) ?_)
  exact boolEq rfl

theorem hasRightAntipode_s (i j : Int) : Spec Tryz.prog 88 [hopV p n U T Z C S, .int .i64 i, .int .i64 j] [] (Ret (.bool (ax7B p n U T Z C S))) := by
  have hn := hV.a.hn
  have hp := hV.a.hp
  refine Spec.ret rfl (Spec.of_vc tabOK tabEq Tryz.func88 rfl (by kernel_rfl) rfl rfl ?_)
  refine Exists.intro 6 (And.intro (by kernel_rfl) ?_)
  refine Exists.intro (algV p n Z C) (And.intro (And.intro rfl (And.intro rfl (Spec.mono (coalgebraOf_s p n U T Z C S) fun r m h => h.1))) ?_)
  refine Exists.intro (algV p n U T) (And.intro (And.intro rfl (And.intro rfl (Spec.mono (algebraOf_s p n U T Z C S) fun r m h => h.1))) ?_)
  (repeat (first | refine And.intro (by omega) ?_ | refine And.intro ⟨by omega, by omega⟩ ?_))
  refine Exists.intro 16 (And.intro (by kernel_rfl) ?_)
  refine Exists.intro (.ints .u8 64 (idF n)) (And.intro (And.intro rfl (And.intro rfl (Spec.mono (identity_s n hn) fun r m h => h.1))) ?_)
  (repeat (first | refine And.intro (by omega) ?_ | refine And.intro ⟨by omega, by omega⟩ ?_))
  refine Exists.intro (.ints .u8 64 (convF p n T C (idF n) S)) (And.intro (And.intro rfl (And.intro rfl (Spec.mono (convolution_s p n n Z C U T _ _ hp hn hV.hC hV.hT (idF_u8 n 64) (fun q hq => hV.hS _ (by omega))) fun r m h => h.1))) ?_)
  (repeat (first | refine And.intro (by omega) ?_ | refine And.intro ⟨by omega, by omega⟩ ?_))
  refine Exists.intro (.ints .u8 64 (tenF p Z U)) (And.intro (And.intro rfl (And.intro rfl (Spec.mono (tensor_s p _ _ hp (fun q hq => hV.hZ _ (by omega)) (fun q hq => hV.hU _ (by omega))) fun r m h => h.1))) ?_)
  exact boolEq rfl

theorem axiom1_s (i j : Int) : Spec Tryz.prog 80 [hopV p n U T Z C S, .int .i64 i, .int .i64 j] [] (Ret (.bool (algB p n U T))) := by
  refine Spec.ret rfl (Spec.of_vc tabOK tabEq Tryz.func80 rfl (by kernel_rfl) rfl rfl ?_)
  refine And.intro trivial (Spec.mono (algebraOf_s p n U T Z C S) ?_)
  rintro r m ⟨rfl, rfl⟩
  refine And.intro trivial (Spec.mono (isAlgebra_s p n U T hV.hU hV.hT) ?_)
  rintro r m ⟨rfl, rfl⟩
  exact boolEq rfl
theorem axiom2_s (i j : Int) : Spec Tryz.prog 82 [hopV p n U T Z C S, .int .i64 i, .int .i64 j] [] (Ret (.bool (coB p n Z C))) := by
  refine Spec.ret rfl (Spec.of_vc tabOK tabEq Tryz.func82 rfl (by kernel_rfl) rfl rfl ?_)
  refine And.intro trivial (Spec.mono (coalgebraOf_s p n U T Z C S) ?_)
  rintro r m ⟨rfl, rfl⟩
  refine And.intro trivial (Spec.mono (implIsCo_s p n Z C hV.hZ hV.hC) ?_)
  rintro r m ⟨rfl, rfl⟩
  exact boolEq rfl
end

/-! ### the search -/
/-- whether the condition of the number k + 1 holds for i and j -/
def holdAt (p : Int) (n : Nat) (U T Z C S : Nat → Int) (k i j : Nat) : Bool :=
  match k with
  | 0 => algB p n U T
  | 1 => coB p n Z C
  | 2 => ax3 p T C i j
  | 3 => ax4B p U C
  | 4 => ax5 p T Z i j && (cnt p Z U == 1)
  | 5 => ax6B p n U T Z C S
  | _ => ax7B p n U T Z C S
def axPair (k : Nat) : Bool := match k with | 2 => true | 4 => true | _ => false
def axFn (k : Nat) : Nat :=
  match k with
  | 0 => 80
  | 1 => 82
  | 2 => 84
  | 3 => 85
  | 4 => 86
  | 5 => 87
  | _ => 88
def axV (k : Nat) : SV := .pair (.bool (axPair k)) (.pair (.fn (axFn k)) .unit)
def axsV : SV := .pair (axV 0) (.pair (axV 1) (.pair (axV 2) (.pair (axV 3) (.pair (axV 4) (.pair (axV 5) (.pair (axV 6) .unit))))))
theorem axR (k : Nat) : SV.eqv (axV k) (axV k) := And.intro rfl (And.intro rfl rfl)
theorem axsR : SV.eqv axsV axsV := And.intro (axR 0) (And.intro (axR 1) (And.intro (axR 2) (And.intro (axR 3) (And.intro (axR 4) (And.intro (axR 5) (And.intro (axR 6) rfl))))))
theorem axs_at : ∀ k, k < 7 → axsV.fieldOf k = some (axV k, 2 * k) := by
  intro k hk
  match k, hk with
  | 0, _ => rfl
  | 1, _ => rfl
  | 2, _ => rfl
  | 3, _ => rfl
  | 4, _ => rfl
  | 5, _ => rfl
  | 6, _ => rfl
  | k + 7, h => omega
theorem holdAt_pair {p : Int} {n : Nat} {U T Z C S : Nat → Int} {k : Nat} (h : axPair k = false) (i j i' j' : Nat) : holdAt p n U T Z C S k i j = holdAt p n U T Z C S k i' j' := by
  unfold holdAt
  match k, h with
  | 0, _ => rfl
  | 1, _ => rfl
  | 2, h => cases h
  | 3, _ => rfl
  | 4, h => cases h
  | 5, _ => rfl
  | k + 6, _ => rfl
theorem hold_s {p : Int} {n : Nat} {U T Z C S : Nat → Int} (hV : HV p n U T Z C S) (k i j : Nat) (hk : k < 7) (hi : i < n) (hj : j < n) :
    Spec Tryz.prog (axFn k) [hopV p n U T Z C S, .int .i64 i, .int .i64 j] [] (Ret (.bool (holdAt p n U T Z C S k i j))) := by
  match k, hk with
  | 0, _ => exact axiom1_s p n U T Z C S hV i j
  | 1, _ => exact axiom2_s p n U T Z C S hV i j
  | 2, _ => exact keepsProduct_s p n U T Z C S hV i j hi hj
  | 3, _ => exact keepsUnit_s p n U T Z C S hV i j
  | 4, _ => exact hasCounitOfProduct_s p n U T Z C S hV i j hi hj
  | 5, _ => exact hasLeftAntipode_s p n U T Z C S hV i j
  | 6, _ => exact hasRightAntipode_s p n U T Z C S hV i j
  | k + 7, h => omega

/-- the number of the first condition that fails is r, or r is 0 -/
def failsAt (p : Int) (n : Nat) (U T Z C S : Nat → Int) (r : Nat) : Prop :=
  (r = 0 ∧ ∀ k, k < 7 → all2 n (holdAt p n U T Z C S k) = true) ∨ (∃ k, r = k + 1 ∧ k < 7 ∧ all2 n (holdAt p n U T Z C S k) = false ∧ ∀ k', k' < k → all2 n (holdAt p n U T Z C S k') = true)
theorem fails_one {p : Int} {n : Nat} {U T Z C S : Nat → Int} {r r' : Nat} (h : failsAt p n U T Z C S r) (h' : failsAt p n U T Z C S r') : r = r' := by
  rcases h with ⟨rfl, h⟩ | ⟨k, rfl, hk, h1, h2⟩
  · rcases h' with ⟨rfl, h'⟩ | ⟨k, rfl, hk, h1, h2⟩
    · rfl
    · rw [h k hk] at h1; cases h1
  · rcases h' with ⟨rfl, h'⟩ | ⟨k', rfl, hk', h1', h2'⟩
    · rw [h' k hk] at h1; cases h1
    · rcases Nat.lt_trichotomy k k' with h | h | h
      · rw [h2' k h] at h1; cases h1
      · rw [h]
      · rw [h2 k' h] at h1'; cases h1'

theorem failingAxiom_q (p : Int) (n : Nat) (U T Z C S : Nat → Int) (hV : HV p n U T Z C S) :
    Spec Tryz.prog 60 [hopV p n U T Z C S] [] (fun r _ => ∃ x : Nat, r = .int .i64 x ∧ failsAt p n U T Z C S x) := by
  have hn := hV.a.hn
  have hn1 := hV.n1
  refine (Spec.of_vc tabOK tabEq Tryz.func60 rfl (by kernel_rfl) rfl rfl ?_)
  refine LoopVC.of (fun x : Nat => x ≤ 7 ∧ ∀ k, k < x → all2 n (holdAt p n U T Z C S k) = true) (fun x => [(1, .ptr 0 [] 0 0), (16, axsV), (17, .int .i64 x)]) (fun _ => [some (hopV p n U T Z C S, 1106), none]) (fun x => 7 - x) 0 ⟨by omega, fun k hk => by omega⟩ ?_ ?_ ?_
  · exact And.intro rfl (And.intro axsR (And.intro rfl trivial))
  · exact And.intro (And.intro (hopR p n U T Z C S) rfl) trivial
  · rintro x ⟨hx, hall⟩
    refine ifVC_split (fun h => ?_) (fun h => ?_)
    · have hlt := of_decide_eq_true h
      have hxl : x < 7 := by omega
      refine And.intro ⟨by omega, by omega⟩ (Exists.intro (axV x) (Exists.intro (2 * x) (And.intro (by rw [Int.toNat_natCast]; exact axs_at x hxl) ?_)))
      refine LoopVC.of (fun i : Nat => i ≤ n ∧ (axPair x = true ∨ i = 0) ∧ ∀ a b, a < i → b < n → holdAt p n U T Z C S x a b = true) (fun i => [(1, .ptr 0 [] 0 0), (4, .int .i64 x), (5, .ptr 2 [] 0 0), (16, axsV), (17, .int .i64 x), (22, .int .i64 n), (23, .int .i64 i)])
        (fun _ => [some (hopV p n U T Z C S, 1106), none, some (axV x, 2)]) (fun i => n - i) 0 ⟨by omega, .inr rfl, fun a b ha => by omega⟩ ?_ ?_ ?_
      · exact And.intro rfl (And.intro rfl (And.intro rfl (And.intro axsR (And.intro rfl (And.intro rfl (And.intro rfl trivial))))))
      · exact And.intro (And.intro (hopR p n U T Z C S) rfl) (And.intro (And.intro (And.intro rfl (And.intro rfl rfl)) rfl) trivial)
      · rintro i ⟨hi, hpi, halli⟩
        refine ifVC_split (fun h => ?_) (fun h => ?_)
        · have hlti := of_decide_eq_true h
          refine LoopVC.of (fun j : Nat => j ≤ n ∧ (axPair x = true ∨ j = 0) ∧ ∀ b, b < j → holdAt p n U T Z C S x i b = true) (fun j => [(1, .ptr 0 [] 0 0), (4, .int .i64 x), (5, .ptr 2 [] 0 0), (6, .int .i64 i), (16, axsV), (17, .int .i64 x), (22, .int .i64 n), (23, .int .i64 i), (27, .int .i64 n), (28, .int .i64 j)])
            (fun _ => [some (hopV p n U T Z C S, 1106), none, some (axV x, 2)]) (fun j => n - j) 0 ⟨by omega, .inr rfl, fun b hb => by omega⟩ ?_ ?_ ?_
          · exact And.intro rfl (And.intro rfl (And.intro rfl (And.intro rfl (And.intro axsR (And.intro rfl (And.intro rfl (And.intro rfl (And.intro rfl (And.intro rfl trivial)))))))))
          · exact And.intro (And.intro (hopR p n U T Z C S) rfl) (And.intro (And.intro (And.intro rfl (And.intro rfl rfl)) rfl) trivial)
          · rintro j ⟨hj, hpj, hallj⟩
            refine ifVC_split (fun h => ?_) (fun h => ?_)
            · have hltj := of_decide_eq_true h
              refine And.intro trivial (Spec.mono (hold_s hV x i j hxl (by omega) (by omega)) ?_)
              rintro r m ⟨rfl, rfl⟩
              refine ifVC_split (fun hc => ?_) (fun hc => ?_)
              · have hc : holdAt p n U T Z C S x i j = false := by simpa using hc
                refine Exists.intro (x + 1) (And.intro ?_ (.inr ⟨x, rfl, hxl, all2_no (by omega) (by omega) hc, hall⟩))
                exact congrArg (SV.int .i64) (wrapS (by omega))
              · have hc : holdAt p n U T Z C S x i j = true := by simpa using hc
                refine ifVC_split (fun hd => ?_) (fun hd => ?_)
                · have hd : axPair x = false := by simpa using hd
                  refine Exists.intro (x + 1) (And.intro ⟨by omega, fun k hk => ?_⟩ (And.intro (by omega) (And.intro (And.intro rfl (And.intro axsR (And.intro (slotI (wrapS (by omega))) trivial))) (And.intro (And.intro (hopR p n U T Z C S) rfl) trivial))))
                  by_cases hkx : k = x
                  · subst hkx
                    exact all2_yes fun a b _ _ => by rw [holdAt_pair hd a b i j]; exact hc
                  · exact hall k (by omega)
                · have hd : axPair x = true := by simpa using hd
                  refine Exists.intro (j + 1) (And.intro ⟨by omega, .inl hd, fun b hb => ?_⟩ (And.intro (by omega) (And.intro (And.intro rfl (And.intro rfl (And.intro rfl (And.intro rfl (And.intro axsR (And.intro rfl (And.intro rfl (And.intro rfl (And.intro rfl (And.intro (slotI (wrapS (by omega))) trivial)))))))))) (And.intro (And.intro (hopR p n U T Z C S) rfl) (And.intro (And.intro (And.intro rfl (And.intro rfl rfl)) rfl) trivial)))))
                  by_cases hbj : b = j
                  · subst hbj; exact hc
                  · exact hallj b (by omega)
            · have hge := of_decide_eq_false h
              have hjn : j = n := by omega
              have hd : axPair x = true := by
                rcases hpj with h | h
                · exact h
                · omega
              refine Exists.intro (i + 1) (And.intro ⟨by omega, .inl hd, fun a b ha hb => ?_⟩ (And.intro (by omega) (And.intro (And.intro rfl (And.intro rfl (And.intro rfl (And.intro axsR (And.intro rfl (And.intro rfl (And.intro (slotI (wrapS (by omega))) trivial))))))) (And.intro (And.intro (hopR p n U T Z C S) rfl) (And.intro (And.intro (And.intro rfl (And.intro rfl rfl)) rfl) trivial)))))
              by_cases hai : a = i
              · subst hai; exact hallj b (by omega)
              · exact halli a b (by omega) hb
        · have hge := of_decide_eq_false h
          have hin : i = n := by omega
          refine Exists.intro (x + 1) (And.intro ⟨by omega, fun k hk => ?_⟩ (And.intro (by omega) (And.intro (And.intro rfl (And.intro axsR (And.intro (slotI (wrapS (by omega))) trivial))) (And.intro (And.intro (hopR p n U T Z C S) rfl) trivial))))
          by_cases hkx : k = x
          · subst hkx
            exact all2_yes fun a b ha hb => halli a b (by omega) hb
          · exact hall k (by omega)
    · have hge := of_decide_eq_false h
      have hx7 : x = 7 := by omega
      exact Exists.intro 0 (And.intro rfl (.inl ⟨rfl, fun k hk => hall k (by omega)⟩))

/-- the number of the first condition that fails, or 0 -/
def failN (p : Int) (n : Nat) (U T Z C S : Nat → Int) : Nat :=
  if algB p n U T = false then 1 else if coB p n Z C = false then 2 else if all2 n (ax3 p T C) = false then 3 else if ax4B p U C = false then 4
  else if (all2 n (ax5 p T Z) && (cnt p Z U == 1)) = false then 5 else if ax6B p n U T Z C S = false then 6 else if ax7B p n U T Z C S = false then 7 else 0

theorem all2_const {n : Nat} (hn : 1 ≤ n) (b : Bool) : all2 n (fun _ _ => b) = b := by
  cases b with
  | false => exact all2_no (i := 0) (j := 0) (by omega) (by omega) rfl
  | true => exact all2_yes fun _ _ _ _ => rfl
theorem all2_and {n : Nat} (hn : 1 ≤ n) (f : Nat → Nat → Bool) (b : Bool) : all2 n (fun i j => f i j && b) = (all2 n f && b) := by
  cases b with
  | false => rw [Bool.and_false]; exact all2_no (i := 0) (j := 0) (by omega) (by omega) (by simp)
  | true => simp
theorem fails_is {p : Int} {n : Nat} {U T Z C S : Nat → Int} (hn : 1 ≤ n) : failsAt p n U T Z C S (failN p n U T Z C S) := by
  have e0 : all2 n (holdAt p n U T Z C S 0) = algB p n U T := all2_const hn _
  have e1 : all2 n (holdAt p n U T Z C S 1) = coB p n Z C := all2_const hn _
  have e2 : all2 n (holdAt p n U T Z C S 2) = all2 n (ax3 p T C) := rfl
  have e3 : all2 n (holdAt p n U T Z C S 3) = ax4B p U C := all2_const hn _
  have e4 : all2 n (holdAt p n U T Z C S 4) = (all2 n (ax5 p T Z) && (cnt p Z U == 1)) := all2_and hn _ _
  have e5 : all2 n (holdAt p n U T Z C S 5) = ax6B p n U T Z C S := all2_const hn _
  have e6 : all2 n (holdAt p n U T Z C S 6) = ax7B p n U T Z C S := all2_const hn _
  have pre : ∀ m, (∀ k, k < m → all2 n (holdAt p n U T Z C S k) = true) → all2 n (holdAt p n U T Z C S m) = true → ∀ k, k < m + 1 → all2 n (holdAt p n U T Z C S k) = true := fun m h1 h2 k hk => by
    by_cases hkm : k = m
    · subst hkm; exact h2
    · exact h1 k (by omega)
  have p0 : ∀ k, k < 0 → all2 n (holdAt p n U T Z C S k) = true := fun k hk => by omega
  unfold failN
  by_cases h0 : algB p n U T = false
  · rw [if_pos h0]; exact .inr ⟨0, rfl, by omega, by rw [e0]; exact h0, p0⟩
  rw [if_neg h0]
  have p1 := pre 0 p0 (by rw [e0]; simpa using h0)
  by_cases h1 : coB p n Z C = false
  · rw [if_pos h1]; exact .inr ⟨1, rfl, by omega, by rw [e1]; exact h1, p1⟩
  rw [if_neg h1]
  have p2 := pre 1 p1 (by rw [e1]; simpa using h1)
  by_cases h2 : all2 n (ax3 p T C) = false
  · rw [if_pos h2]; exact .inr ⟨2, rfl, by omega, by rw [e2]; exact h2, p2⟩
  rw [if_neg h2]
  have p3 := pre 2 p2 (by rw [e2]; simpa using h2)
  by_cases h3 : ax4B p U C = false
  · rw [if_pos h3]; exact .inr ⟨3, rfl, by omega, by rw [e3]; exact h3, p3⟩
  rw [if_neg h3]
  have p4 := pre 3 p3 (by rw [e3]; simpa using h3)
  by_cases h4 : (all2 n (ax5 p T Z) && (cnt p Z U == 1)) = false
  · rw [if_pos h4]; exact .inr ⟨4, rfl, by omega, by rw [e4]; exact h4, p4⟩
  rw [if_neg h4]
  have p5 := pre 4 p4 (by rw [e4]; simpa using h4)
  by_cases h5 : ax6B p n U T Z C S = false
  · rw [if_pos h5]; exact .inr ⟨5, rfl, by omega, by rw [e5]; exact h5, p5⟩
  rw [if_neg h5]
  have p6 := pre 5 p5 (by rw [e5]; simpa using h5)
  by_cases h6 : ax7B p n U T Z C S = false
  · rw [if_pos h6]; exact .inr ⟨6, rfl, by omega, by rw [e6]; exact h6, p6⟩
  rw [if_neg h6]
  exact .inl ⟨rfl, pre 6 p6 (by rw [e6]; simpa using h6)⟩

theorem failingAxiom_s (p : Int) (n : Nat) (U T Z C S : Nat → Int) (hV : HV p n U T Z C S) :
    Spec Tryz.prog 60 [hopV p n U T Z C S] [] (Ret (.int .i64 (failN p n U T Z C S))) :=
  Spec.ret rfl (Spec.mono (failingAxiom_q p n U T Z C S hV) fun r m ⟨x, hr, hx⟩ => by
    subst hr
    exact slotI (by rw [fails_one hx (fails_is hV.n1)]))

/-- whether it is a Hopf algebra -/
def hopB (p n : Int) (U T Z C S : Nat → Int) : Bool := hshB p n U T Z C S && (failN p n.toNat U T Z C S == 0)

theorem isHopf_s (p n : Int) (U T Z C S : Nat → Int) (hU : isU8 8 U) (hT : isU8 512 T) (hZ : isU8 8 Z) (hC : isU8 512 C) (hS : isU8 64 S) :
    Spec Tryz.prog 36 [hopV p n U T Z C S] [] (Ret (.bool (hopB p n U T Z C S))) := by
  refine Spec.ret rfl (Spec.of_vc tabOK tabEq Tryz.func36 rfl (by kernel_rfl) rfl rfl ?_)
  refine And.intro trivial (Spec.mono (isShapedHopf_s p n U T Z C S hU hT hZ hC hS) ?_)
  rintro r m ⟨rfl, rfl⟩
  refine ifVC_split (fun h => ?_) (fun h => ?_)
  · obtain ⟨n, rfl, hV⟩ := hsh_valid hU hT hZ hC hS h
    refine And.intro trivial (Spec.mono (failingAxiom_s p n U T Z C S hV) ?_)
    rintro r m ⟨rfl, rfl⟩
    refine boolEq ?_
    unfold hopB
    rw [h, Bool.true_and, Int.toNat_natCast, Bool.eq_iff_iff, beq_iff_eq, beq_iff_eq]
    omega
  · exact boolEq (by unfold hopB; rw [h]; rfl)
end Go.Proofs.YtjanlnngeklhoabGreat

/- The axioms of Hopf algebras, as the model checks them. -/
set_option linter.unusedVariables false
set_option linter.unusedSimpArgs false
set_option maxRecDepth 100000
set_option maxHeartbeats 1000000
namespace Go.Proofs.YtjanlnngeklhoabGreat
open M

theorem l01Zero_s (v : Nat → Int) : Spec Tryz.prog 45 [.ints .u8 8 v] [] (Ret (.bool (allEq 8 v fun _ => 0))) := by
  refine Spec.ret rfl (Spec.of_vc tabOK tabEq Tryz.func45 rfl (by kernel_rfl) rfl rfl ?_)
  (repeat (first | refine And.intro (by omega) ?_ | refine And.intro ⟨by omega, by omega⟩ ?_))
  exact boolEq rfl

theorem cop_skip {p : Int} {C v : Nat → Int} {i : Nat} (hv : v i = 0) (j k : Nat) : cop p C v (i + 1) j k = cop p C v i j k := by
  unfold cop
  show (sumN i (fun a => v a * vecT C a j k) + v i * vecT C i j k) % p = _
  rw [hv]; simp

theorem l03Coproduct_s (p : Int) (n : Nat) (U T Z C S v : Nat → Int) (hV : Valid p n Z (dualF C)) (hC : isU8 512 C) (hv : isU8 8 v) (hz : ∀ i, n ≤ i → i < 8 → v i = 0) :
    Spec Tryz.prog 97 [hopV p n U T Z C S, .ints .u8 8 v] [] (Ret (.ints .u8 64 (leftT p C v))) := by
  have hn := hV.hn
  have hp := hV.hp
  refine Spec.ret rfl (Spec.of_vc tabOK tabEq Tryz.func97 rfl (by kernel_rfl) rfl rfl ?_)
  (repeat (first | refine And.intro (by omega) ?_ | refine And.intro ⟨by omega, by omega⟩ ?_))
  refine LoopVC.of (fun i : Nat => i ≤ n) (fun i => [(2, .ptr 0 [] 0 0), (3, .ptr 1 [] 0 0), (4, .ptr 2 [] 0 0), (5, .ptr 3 [] 0 0), (6, .int .i64 i)])
    (fun i => [some (hopV p n U T Z C S, 1106), some (.ints .u8 8 v, 8), some (.ints .u8 64 fun _ => 0, 64), some (.ints .u8 64 fun q => if q / 8 < n then cop p C v i (q / 8) (q % 8) else 0, 64)]) (fun i => n - i) 0 (by omega) ?_ ?_ ?_
  · exact (And.intro rfl (And.intro rfl (And.intro rfl (And.intro rfl (And.intro rfl (trivial))))))
  · exact And.intro (And.intro (hopR p n U T Z C S) rfl) (And.intro (And.intro (rowEq fun _ _ => rfl) rfl) (And.intro (And.intro (rowEq fun _ _ => rfl) rfl) (And.intro (And.intro (rowEq fun q hq => by show updR _ 0 64 _ q = _; simp [updR, hq, cop, sumN]) rfl) trivial)))
  · intro i hi
    refine ifVC_split (fun h => ?_) (fun h => ?_)
    · have hlti := of_decide_eq_true h
      have hidx : (i : Int).toNat = i := by omega
      have hvi := hv i (by omega)
      have done : ∀ j : Nat, j ≤ n → (j = n ∨ v i = 0) → ∀ q, q < 64 → (if q / 8 < j then cop p C v (i + 1) (q / 8) (q % 8) else if q / 8 < n then cop p C v i (q / 8) (q % 8) else 0) = if q / 8 < n then cop p C v (i + 1) (q / 8) (q % 8) else 0 := fun j hj hd q hq => by
        by_cases h2 : q / 8 < j
        · rw [if_pos h2, if_pos (by omega)]
        · rw [if_neg h2]
          rcases hd with hd | hd
          · rw [if_neg (by omega), if_neg (by omega)]
          · rw [cop_skip hd]
      refine LoopVC.of (fun j : Nat => j ≤ n) (fun j => [(2, .ptr 0 [] 0 0), (3, .ptr 1 [] 0 0), (4, .ptr 2 [] 0 0), (5, .ptr 3 [] 0 0), (6, .int .i64 i), (7, .int .i64 j)])
        (fun j => [some (hopV p n U T Z C S, 1106), some (.ints .u8 8 v, 8), some (.ints .u8 64 fun _ => 0, 64), some (.ints .u8 64 fun q => if q / 8 < j then cop p C v (i + 1) (q / 8) (q % 8) else if q / 8 < n then cop p C v i (q / 8) (q % 8) else 0, 64)]) (fun j => n - j) 0 (by omega) ?_ ?_ ?_
      · exact (And.intro rfl (And.intro rfl (And.intro rfl (And.intro rfl (And.intro rfl (And.intro rfl (trivial)))))))
      · exact And.intro (And.intro (hopR p n U T Z C S) rfl) (And.intro (And.intro (rowEq fun _ _ => rfl) rfl) (And.intro (And.intro (rowEq fun _ _ => rfl) rfl) (And.intro (And.intro (rowEq fun q hq => by simp) rfl) trivial)))
      · intro j hj
        refine ifVC_split (fun h => ?_) (fun h => ?_)
        · have hltj := of_decide_eq_true h
          have hjdx : (j : Int).toNat = j := by omega
          (repeat (first | refine And.intro (by omega) ?_ | refine And.intro ⟨by omega, by omega⟩ ?_))
          refine ifVC_split (fun hz0 => ?_) (fun hz0 => ?_)
          · refine Exists.intro 18 (And.intro (by kernel_rfl) ?_)
            (repeat (first | refine And.intro (by omega) ?_ | refine And.intro ⟨by omega, by omega⟩ ?_))
            have hout : isU8 64 fun q => if q / 8 < j then cop p C v (i + 1) (q / 8) (q % 8) else if q / 8 < n then cop p C v i (q / 8) (q % 8) else 0 := fun q hq => by
              dsimp only
              split
              · exact modB hp
              · split
                · exact modB hp
                · omega
            have hvw : IntKind.i64.wrap (v ((i : Int).toNat * 1 + 0)) = v i := by rw [show (i : Int).toNat * 1 + 0 = i by omega]; exact wrapI (by omega)
            refine Exists.intro (.ints .u8 8 _) (And.intro (And.intro rfl (And.intro rfl (Spec.mono (l01Add_s p _ _ _ hp (by rw [hvw]; omega) (fun q hq => hout _ (by omega)) (fun q hq => hC _ (by omega))) fun r m h => h.1))) ?_)
            (repeat (first | refine And.intro (by omega) ?_ | refine And.intro ⟨by omega, by omega⟩ ?_))
            refine Exists.intro (j + 1) (And.intro (by omega) (And.intro (by omega) (And.intro (And.intro rfl (And.intro rfl (And.intro rfl (And.intro rfl (And.intro rfl (And.intro (slotI (wrapS (by omega))) trivial)))))) ?_)))
            refine And.intro (And.intro (hopR p n U T Z C S) rfl) (And.intro (And.intro (rowEq fun _ _ => rfl) rfl) (And.intro (And.intro (rowEq fun _ _ => rfl) rfl) (And.intro (And.intro (rowEq fun q hq => ?_) rfl) trivial)))
            show updR _ ((j : Int).toNat * 8 + 0) 8 _ q = _
            unfold updR
            rw [hjdx]
            by_cases h1 : j * 8 + 0 ≤ q ∧ q < j * 8 + 0 + 8
            · rw [if_pos h1, if_pos (by omega)]
              unfold addM
              rw [hvw, cop_step]
              dsimp only
              have e1 : q - (j * 8 + 0) + (j * 8 + 0) = q := by omega
              have e2 : C (q - (j * 8 + 0) + (j * 8 + ((i : Int).toNat * 64 + 0))) = vecT C i (q / 8) (q % 8) := by unfold vecT; congr 1; omega
              rw [e1, e2, if_neg (by omega), if_pos (by omega)]
            · rw [if_neg h1]
              dsimp only
              by_cases h2 : q / 8 < j
              · rw [if_pos h2, if_pos (show q / 8 < j + 1 by omega)]
              · rw [if_neg h2, if_neg (show ¬ q / 8 < j + 1 by omega)]
          · have hz0 : v i = 0 := by
              have hz0 : v ((i : Int).toNat * 1 + 0) = 0 := by simpa using hz0
              rw [show (i : Int).toNat * 1 + 0 = i by omega] at hz0; exact hz0
            refine Exists.intro (i + 1) (And.intro (by omega) (And.intro (by omega) (And.intro (And.intro rfl (And.intro rfl (And.intro rfl (And.intro rfl (And.intro (slotI (wrapS (by omega))) trivial))))) ?_)))
            exact And.intro (And.intro (hopR p n U T Z C S) rfl) (And.intro (And.intro (rowEq fun _ _ => rfl) rfl) (And.intro (And.intro (rowEq fun _ _ => rfl) rfl) (And.intro (And.intro (rowEq fun q hq => done j hj (.inr hz0) q hq) rfl) trivial)))
        · have hge := of_decide_eq_false h
          refine Exists.intro (i + 1) (And.intro (by omega) (And.intro (by omega) (And.intro (And.intro rfl (And.intro rfl (And.intro rfl (And.intro rfl (And.intro (slotI (wrapS (by omega))) trivial))))) ?_)))
          exact And.intro (And.intro (hopR p n U T Z C S) rfl) (And.intro (And.intro (rowEq fun _ _ => rfl) rfl) (And.intro (And.intro (rowEq fun _ _ => rfl) rfl) (And.intro (And.intro (rowEq fun q hq => done j hj (.inl (by omega)) q hq) rfl) trivial)))
    · have hge := of_decide_eq_false h
      obtain rfl : i = n := by omega
      (repeat (first | refine And.intro (by omega) ?_ | refine And.intro ⟨by omega, by omega⟩ ?_))
      refine rowEq fun q hq => ?_
      rw [cop_left hV hz hq]
      show updR _ 0 64 _ q = _
      simp [updR, hq]

theorem l03Counit_s (p : Int) (n : Nat) (U T Z C S v : Nat → Int) (hp : 0 < p ∧ p < 256) (hn : n ≤ 8) (hZ : isU8 8 Z) (hv : isU8 8 v) (hz : ∀ i, n ≤ i → i < 8 → v i = 0) :
    Spec Tryz.prog 99 [hopV p n U T Z C S, .ints .u8 8 v] [] (Ret (.int .i64 (cnt p Z v))) := by
  refine Spec.ret rfl (Spec.of_vc tabOK tabEq Tryz.func99 rfl (by kernel_rfl) rfl rfl ?_)
  refine LoopVC.of (fun i : Nat => i ≤ n) (fun i => [(2, .ptr 0 [] 0 0), (3, .ptr 1 [] 0 0), (5, .int .i64 (cntN Z v i)), (6, .int .i64 i)]) (fun _ => [some (hopV p n U T Z C S, 1106), some (.ints .u8 8 v, 8)]) (fun i => n - i) 0 (by omega) ?_ ?_ ?_
  · exact (And.intro rfl (And.intro rfl (And.intro rfl (And.intro rfl (trivial)))))
  · exact And.intro (And.intro (hopR p n U T Z C S) rfl) (And.intro (And.intro (rowEq fun _ _ => rfl) rfl) trivial)
  · intro i hi
    refine ifVC_split (fun h => ?_) (fun h => ?_)
    · have hlt := of_decide_eq_true h
      refine Exists.intro 12 (And.intro (by kernel_rfl) ?_)
      (repeat (first | refine And.intro (by omega) ?_ | refine And.intro ⟨by omega, by omega⟩ ?_))
      refine Exists.intro (i + 1) (And.intro (by omega) (And.intro (by omega) (And.intro (And.intro rfl (And.intro rfl (And.intro (slotI (cnt_step hZ hv (by omega) (by omega) (by omega))) (And.intro (slotI (wrapS (by omega))) trivial)))) (And.intro (And.intro (hopR p n U T Z C S) rfl) (And.intro (And.intro (rowEq fun _ _ => rfl) rfl) trivial)))))
    · have hge := of_decide_eq_false h
      obtain rfl : i = n := by omega
      have h4 := cnt_bound hZ hv i (by omega)
      (repeat (first | refine And.intro (by omega) ?_ | refine And.intro ⟨by omega, by omega⟩ ?_))
      refine slotI ?_
      rw [Int.tmod_eq_emod_of_nonneg h4.1]
      unfold cnt cntN
      rw [sumN_cut 8 hn fun a h1 h2 => by rw [hz a h1 h2]; simp]

/-! ### products of pairs -/
theorem pairT_cut {p : Int} {n : Nat} {U T : Nat → Int} (hV : Valid p n U T) (F G : Nat → Int) {q : Nat} (hq : q < 64) : pairT p T F G 8 8 q = pairT p T F G n n q := by
  have hn := hV.hn
  have e : ∀ a, a < 8 → pairN p T F G a 8 q = pairN p T F G a n q := fun a ha => by
    unfold pairN
    exact sumN_cut 8 hn fun b h1 h2 => by rw [hV.zero a b (q / 8) ha h2 (by omega) (.inr (.inl h1))]; simp
  unfold pairT
  rw [sumN_congr 8 e]
  refine sumN_cut 8 hn fun a h1 h2 => ?_
  unfold pairN
  exact sumN_none n fun b hb => by rw [hV.zero a b (q / 8) h2 (by omega) (by omega) (.inl h1)]; simp

theorem l03Pairs_s (p : Int) (n : Nat) (U T Z C S F G : Nat → Int) (hV : HV p n U T Z C S) (hF : isU8 64 F) (hG : isU8 64 G) (hFz : ∀ a m, a < 8 → m < 8 → n ≤ m → partF F 8 a m = 0) (hGz : ∀ a m, a < 8 → m < 8 → n ≤ m → partF G 8 a m = 0) :
    Spec Tryz.prog 98 [hopV p n U T Z C S, .ints .u8 64 F, .ints .u8 64 G] [] (Ret (.ints .u8 64 (pairsF p T F G))) := by
  have hn := hV.a.hn
  have hp := hV.a.hp
  have hT := hV.hT
  have HE : ∀ (r : Mem), True := fun _ => trivial
  refine Spec.ret rfl (Spec.of_vc tabOK tabEq Tryz.func98 rfl (by kernel_rfl) rfl rfl ?_)
  refine Exists.intro 8 (And.intro (by kernel_rfl) ?_)
  (repeat (first | refine And.intro (by omega) ?_ | refine And.intro ⟨by omega, by omega⟩ ?_))
  refine LoopVC.of (fun j : Nat => j ≤ n) (fun j => [(3, .ptr 0 [] 0 0), (4, .ptr 1 [] 0 0), (5, .ptr 2 [] 0 0), (6, .ptr 3 [] 0 0), (7, .int .i64 p), (8, .int .i64 n), (9, .ptr 4 [] 0 0), (10, .int .i64 j)])
    (fun j => [some (hopV p n U T Z C S, 1106), some (.ints .u8 64 F, 64), some (.ints .u8 64 G, 64), some (.ints .u8 64 fun _ => 0, 64), some (.ints .u8 64 fun q => pairT p T F G j n q % p, 64)]) (fun j => n - j) 0 (by omega) ?_ ?_ ?_
  · exact (And.intro rfl (And.intro rfl (And.intro rfl (And.intro rfl (And.intro rfl (And.intro rfl (And.intro rfl (And.intro rfl (trivial)))))))))
  · exact And.intro (And.intro (hopR p n U T Z C S) rfl) (And.intro (And.intro (rowEq fun _ _ => rfl) rfl) (And.intro (And.intro (rowEq fun _ _ => rfl) rfl) (And.intro (And.intro (rowEq fun _ _ => rfl) rfl) (And.intro (And.intro (rowEq fun q hq => by show updR _ 0 64 _ q = _; simp [updR, hq, pairT, sumN]) rfl) trivial))))
  · intro j hj
    refine ifVC_split (fun h => ?_) (fun h => ?_)
    · have hltj := of_decide_eq_true h
      have hjdx : (j : Int).toNat = j := by omega
      refine LoopVC.of (fun l : Nat => l ≤ n) (fun l => [(3, .ptr 0 [] 0 0), (4, .ptr 1 [] 0 0), (5, .ptr 2 [] 0 0), (6, .ptr 3 [] 0 0), (7, .int .i64 p), (8, .int .i64 n), (9, .ptr 4 [] 0 0), (10, .int .i64 j), (11, .int .i64 l)])
        (fun l => [some (hopV p n U T Z C S, 1106), some (.ints .u8 64 F, 64), some (.ints .u8 64 G, 64), some (.ints .u8 64 fun _ => 0, 64), some (.ints .u8 64 fun q => (pairT p T F G j n q + pairN p T F G j l q) % p, 64)]) (fun l => n - l) 0 (by omega) ?_ ?_ ?_
      · exact (And.intro rfl (And.intro rfl (And.intro rfl (And.intro rfl (And.intro rfl (And.intro rfl (And.intro rfl (And.intro rfl (And.intro rfl (trivial))))))))))
      · exact And.intro (And.intro (hopR p n U T Z C S) rfl) (And.intro (And.intro (rowEq fun _ _ => rfl) rfl) (And.intro (And.intro (rowEq fun _ _ => rfl) rfl) (And.intro (And.intro (rowEq fun _ _ => rfl) rfl) (And.intro (And.intro (rowEq fun q hq => by simp [pairN, sumN]) rfl) trivial))))
      · intro l hl
        refine ifVC_split (fun h => ?_) (fun h => ?_)
        · have hltl := of_decide_eq_true h
          have hldx : (l : Int).toNat = l := by omega
          have next : ∀ (s : Slots) (m : Mem) (o : Nat → Int), (∀ q, q < 64 → o q = (pairT p T F G j n q + pairN p T F G j (l + 1) q) % p) → eqvO (lk s 3) (.ptr 0 [] 0 0) → eqvO (lk s 4) (.ptr 1 [] 0 0) → eqvO (lk s 5) (.ptr 2 [] 0 0) → eqvO (lk s 6) (.ptr 3 [] 0 0) → eqvO (lk s 7) (.int .i64 p) → eqvO (lk s 8) (.int .i64 n) → eqvO (lk s 9) (.ptr 4 [] 0 0) → eqvO (lk s 10) (.int .i64 j) → eqvO (lk s 11) (.int .i64 (IntKind.i64.wrap ((l : Int) + 1))) →
              memCut m [some (hopV p n U T Z C S, 1106), some (.ints .u8 64 F, 64), some (.ints .u8 64 G, 64), some (.ints .u8 64 fun _ => 0, 64), some (.ints .u8 64 fun q => (pairT p T F G j n q + pairN p T F G j (l + 1) q) % p, 64)] →
              ∃ x' : Nat, x' ≤ n ∧ n - x' < n - l ∧ subL [(3, .ptr 0 [] 0 0), (4, .ptr 1 [] 0 0), (5, .ptr 2 [] 0 0), (6, .ptr 3 [] 0 0), (7, .int .i64 p), (8, .int .i64 n), (9, .ptr 4 [] 0 0), (10, .int .i64 j), (11, .int .i64 x')] s ∧
                memCut m [some (hopV p n U T Z C S, 1106), some (.ints .u8 64 F, 64), some (.ints .u8 64 G, 64), some (.ints .u8 64 fun _ => 0, 64), some (.ints .u8 64 fun q => (pairT p T F G j n q + pairN p T F G j x' q) % p, 64)] := fun s m o _ h3 h4 h5 h6 h7 h8 h9 h10 h11 hm =>
            ⟨l + 1, by omega, by omega, ⟨h3, h4, h5, h6, h7, h8, h9, h10, by rw [wrapS (by omega)] at h11; exact h11, trivial⟩, hm⟩
          have hFj : isU8 8 (partF F 8 j) := part_u8 hF (by omega)
          have hGl : isU8 8 (partF G 8 l) := part_u8 hG (by omega)
          refine Exists.intro 10 (And.intro (by kernel_rfl) ?_)
          refine Exists.intro (algV p n U T) (And.intro (And.intro rfl (And.intro rfl (Spec.mono (l03Algebra_s p n U T Z C S) fun r m h => h.1))) ?_)
          (repeat (first | refine And.intro (by omega) ?_ | refine And.intro ⟨by omega, by omega⟩ ?_))
          refine Exists.intro (.ints .u8 8 fun y => timS p n T (partF F 8 j) (partF G 8 l) n y % p) (And.intro (And.intro rfl (And.intro rfl ?_)) ?_)
          · refine Spec.mono (l01Times_s p n U T _ _ hp hn hT (fun q hq => hF _ (by omega)) (fun q hq => hG _ (by omega))) ?_
            rintro r m ⟨rfl, _⟩
            rw [hjdx, hldx]
            rfl
          have hrow : ∀ y, y < 8 → timS p n T (partF F 8 j) (partF G 8 l) n y % p = pw p T F G j l y := fun y hy => prod_eq hV.a (fun m h1 h2 => hFz j m (by omega) h2 h1) (fun m h1 h2 => hGz l m (by omega) h2 h1) hy
          (repeat (first | refine And.intro (by omega) ?_ | refine And.intro ⟨by omega, by omega⟩ ?_))
          refine And.intro trivial (Spec.mono (l01Zero_s _) ?_)
          rintro r m ⟨rfl, rfl⟩
          have hq : allEq 8 (fun q => updR (fun _ => 0) 0 8 (fun y => timS p n T (partF F 8 j) (partF G 8 l) n y % p) (q + 0)) (fun _ => 0) = allEq 8 (pw p T F G j l) (fun _ => 0) := allEq_congr (fun q hq => by simp [updR, hq]; exact hrow q hq) fun _ _ => rfl
          refine ifVC_split (fun hz0 => ?_) (fun hz0 => ?_)
          · have hz0 : allEq 8 (pw p T F G j l) (fun _ => 0) = true := by rw [← hq]; exact hz0
            refine next _ _ _ (fun q hq => rfl) rfl rfl rfl rfl rfl rfl rfl rfl rfl ?_
            refine And.intro (And.intro (hopR p n U T Z C S) rfl) (And.intro (And.intro (rowEq fun _ _ => rfl) rfl) (And.intro (And.intro (rowEq fun _ _ => rfl) rfl) (And.intro (And.intro (rowEq fun _ _ => rfl) rfl) (And.intro (And.intro (rowEq fun q hq => ?_) rfl) trivial))))
            show (pairT p T F G j n q + pairN p T F G j l q) % p = (pairT p T F G j n q + (pairN p T F G j l q + vecT T j l (q / 8) * pw p T F G j l (q % 8))) % p
            rw [allEq_get hz0 (show q % 8 < 8 by omega)]
            simp
          refine LoopVC.of (fun x : Nat => x ≤ n) (fun x => [(3, .ptr 0 [] 0 0), (4, .ptr 1 [] 0 0), (5, .ptr 2 [] 0 0), (6, .ptr 3 [] 0 0), (7, .int .i64 p), (8, .int .i64 n), (9, .ptr 4 [] 0 0), (10, .int .i64 j), (11, .int .i64 l), (12, .ptr 5 [] 0 0), (13, .int .i64 x)])
            (fun x => [some (hopV p n U T Z C S, 1106), some (.ints .u8 64 F, 64), some (.ints .u8 64 G, 64), some (.ints .u8 64 fun _ => 0, 64), some (.ints .u8 64 fun q => (pairT p T F G j n q + pairN p T F G j (if q / 8 < x then l + 1 else l) q) % p, 64), some (.ints .u8 8 (pw p T F G j l), 8)]) (fun x => n - x) 0 (by omega) ?_ ?_ ?_
          · exact (And.intro rfl (And.intro rfl (And.intro rfl (And.intro rfl (And.intro rfl (And.intro rfl (And.intro rfl (And.intro rfl (And.intro rfl (And.intro rfl (And.intro rfl (trivial))))))))))))
          · exact And.intro (And.intro (hopR p n U T Z C S) rfl) (And.intro (And.intro (rowEq fun _ _ => rfl) rfl) (And.intro (And.intro (rowEq fun _ _ => rfl) rfl) (And.intro (And.intro (rowEq fun _ _ => rfl) rfl) (And.intro (And.intro (rowEq fun q hq => by simp) rfl) (And.intro (And.intro (rowEq fun q hq => by show updR _ 0 8 _ q = _; simp [updR, hq]; exact hrow q hq) rfl) trivial)))))
          · intro x hx
            refine ifVC_split (fun h => ?_) (fun h => ?_)
            · have hltx := of_decide_eq_true h
              have hxdx : (x : Int).toNat = x := by omega
              have hk : T ((x : Int).toNat * 1 + ((l : Int).toNat * 8 + ((j : Int).toNat * 64 + 0))) = vecT T j l x := by rw [hjdx, hldx, hxdx]; unfold vecT; congr 1; omega
              have hkb := vec_u8 hT (show j < 8 by omega) (show l < 8 by omega) (show x < 8 by omega)
              (repeat (first | refine And.intro (by omega) ?_ | refine And.intro ⟨by omega, by omega⟩ ?_))
              refine ifVC_split (fun hc => ?_) (fun hc => ?_)
              · refine Exists.intro 10 (And.intro (by kernel_rfl) ?_)
                (repeat (first | refine And.intro (by omega) ?_ | refine And.intro ⟨by omega, by omega⟩ ?_))
                refine Exists.intro (.ints .u8 8 _) (And.intro (And.intro rfl (And.intro rfl (Spec.mono (l01Add_s p _ _ _ hp (by rw [hk, wrapI (by omega)]; omega) (fun q hq => modB hp) (fun q hq => modB hp)) fun r m h => h.1))) ?_)
                (repeat (first | refine And.intro (by omega) ?_ | refine And.intro ⟨by omega, by omega⟩ ?_))
                refine Exists.intro (x + 1) (And.intro (by omega) (And.intro (by omega) (And.intro (And.intro rfl (And.intro rfl (And.intro rfl (And.intro rfl (And.intro rfl (And.intro rfl (And.intro rfl (And.intro rfl (And.intro rfl (And.intro rfl (And.intro (slotI (wrapS (by omega))) trivial))))))))))) ?_)))
                refine And.intro (And.intro (hopR p n U T Z C S) rfl) (And.intro (And.intro (rowEq fun _ _ => rfl) rfl) (And.intro (And.intro (rowEq fun _ _ => rfl) rfl) (And.intro (And.intro (rowEq fun _ _ => rfl) rfl) (And.intro (And.intro (rowEq fun q hq => ?_) rfl) (And.intro (And.intro (rowEq fun _ _ => rfl) rfl) trivial)))))
                show updR _ ((x : Int).toNat * 8 + 0) 8 _ q = _
                unfold updR
                rw [hxdx]
                by_cases h1 : x * 8 + 0 ≤ q ∧ q < x * 8 + 0 + 8
                · rw [if_pos h1, if_pos (show q / 8 < x + 1 by omega)]
                  unfold addM
                  dsimp only
                  rw [hxdx] at hk
                  rw [hk, wrapI (x := vecT T j l x) (by omega), show q - (x * 8 + 0) + (x * 8 + 0) = q by omega, if_neg (show ¬ q / 8 < x by omega), mod_add, Int.add_assoc]
                  congr 2
                  show _ = pairN p T F G j l q + vecT T j l (q / 8) * pw p T F G j l (q % 8)
                  rw [show q / 8 = x by omega, show q - (x * 8 + 0) + 0 = q % 8 by omega]
                · rw [if_neg h1]
                  dsimp only
                  by_cases h2 : q / 8 < x
                  · rw [if_pos h2, if_pos (show q / 8 < x + 1 by omega)]
                  · rw [if_neg h2, if_neg (show ¬ q / 8 < x + 1 by omega)]
              · have hc : vecT T j l x = 0 := by rw [hk] at hc; simpa using hc
                refine Exists.intro (x + 1) (And.intro (by omega) (And.intro (by omega) (And.intro (And.intro rfl (And.intro rfl (And.intro rfl (And.intro rfl (And.intro rfl (And.intro rfl (And.intro rfl (And.intro rfl (And.intro rfl (And.intro rfl (And.intro (slotI (wrapS (by omega))) trivial))))))))))) ?_)))
                refine And.intro (And.intro (hopR p n U T Z C S) rfl) (And.intro (And.intro (rowEq fun _ _ => rfl) rfl) (And.intro (And.intro (rowEq fun _ _ => rfl) rfl) (And.intro (And.intro (rowEq fun _ _ => rfl) rfl) (And.intro (And.intro (rowEq fun q hq => ?_) rfl) (And.intro (And.intro (rowEq fun _ _ => rfl) rfl) trivial)))))
                by_cases h2 : q / 8 < x
                · rw [if_pos h2, if_pos (show q / 8 < x + 1 by omega)]
                · rw [if_neg h2]
                  by_cases h3 : q / 8 < x + 1
                  · rw [if_pos h3]
                    show _ = (pairT p T F G j n q + (pairN p T F G j l q + vecT T j l (q / 8) * pw p T F G j l (q % 8))) % p
                    rw [show q / 8 = x by omega, hc]
                    simp
                  · rw [if_neg h3]
            · have hge := of_decide_eq_false h
              obtain rfl : x = n := by omega
              refine next _ _ _ (fun q hq => rfl) rfl rfl rfl rfl rfl rfl rfl rfl rfl ?_
              refine And.intro (And.intro (hopR p x U T Z C S) rfl) (And.intro (And.intro (rowEq fun _ _ => rfl) rfl) (And.intro (And.intro (rowEq fun _ _ => rfl) rfl) (And.intro (And.intro (rowEq fun _ _ => rfl) rfl) (And.intro (And.intro (rowEq fun q hq => ?_) rfl) trivial))))
              by_cases h2 : q / 8 < x
              · rw [if_pos h2]
              · rw [if_neg h2]
                show _ = (pairT p T F G j x q + (pairN p T F G j l q + vecT T j l (q / 8) * pw p T F G j l (q % 8))) % p
                rw [hV.a.zero j l (q / 8) (by omega) (by omega) (by omega) (.inr (.inr (by omega)))]
                simp
        · have hge := of_decide_eq_false h
          obtain rfl : l = n := by omega
          refine Exists.intro (j + 1) (And.intro (by omega) (And.intro (by omega) (And.intro (And.intro rfl (And.intro rfl (And.intro rfl (And.intro rfl (And.intro rfl (And.intro rfl (And.intro rfl (And.intro (slotI (wrapS (by omega))) trivial)))))))) ?_)))
          exact And.intro (And.intro (hopR p l U T Z C S) rfl) (And.intro (And.intro (rowEq fun _ _ => rfl) rfl) (And.intro (And.intro (rowEq fun _ _ => rfl) rfl) (And.intro (And.intro (rowEq fun _ _ => rfl) rfl) (And.intro (And.intro (rowEq fun q hq => rfl) rfl) trivial))))
    · have hge := of_decide_eq_false h
      obtain rfl : j = n := by omega
      (repeat (first | refine And.intro (by omega) ?_ | refine And.intro ⟨by omega, by omega⟩ ?_))
      refine rowEq fun q hq => ?_
      unfold pairsF
      rw [pairT_cut hV.a F G hq]
      show updR _ 0 64 _ q = _
      simp [updR, hq]

/-! ### the convolutions with the identity -/
def owF (p : Int) (T R : Nat → Int) (b : Bool) (j k : Nat) : Nat → Int := match b with | false => prodF p T (partF R 8 j) (unitV k) | true => prodF p T (unitV j) (partF R 8 k)
def foldN (p : Int) (T C R : Nat → Int) (b : Bool) (i j m y : Nat) : Int := sumN m fun k => vecT C i j k * owF p T R b j k y
def foldT (p : Int) (n : Nat) (T C R : Nat → Int) (b : Bool) (i m y : Nat) : Int := sumN m fun j => foldN p T C R b i j n y

theorem l03FoldedF_s (p : Int) (n : Nat) (U T Z C S R : Nat → Int) (hV : HV p n U T Z C S) (hR : isU8 64 R) (hRz : ∀ a m, a < 8 → m < 8 → n ≤ m → partF R 8 a m = 0) (i : Nat) (hi : i < n) :
    Spec Tryz.prog 100 [hopV p n U T Z C S, .int .i64 i, .ints .u8 64 R, .bool false] [] (Ret (.ints .u8 8 fun y => foldT p n T C R false i n y % p)) := by
  have hn := hV.a.hn
  have hp := hV.a.hp
  have hT := hV.hT
  have hidx : (i : Int).toNat = i := by omega
  refine Spec.ret rfl (Spec.of_vc tabOK tabEq Tryz.func100 rfl (by kernel_rfl) rfl rfl ?_)
  refine And.intro trivial (Spec.mono (l03Algebra_s p n U T Z C S) ?_)
  rintro r m ⟨rfl, rfl⟩
  (repeat (first | refine And.intro (by omega) ?_ | refine And.intro ⟨by omega, by omega⟩ ?_))
  refine LoopVC.of (fun j : Nat => j ≤ n) (fun j => [(1, .int .i64 i), (3, .bool false), (4, .ptr 0 [] 0 0), (6, .ptr 1 [] 0 0), (8, .ptr 2 [] 0 0), (9, .ptr 3 [] 0 0), (10, .ptr 4 [] 0 0), (11, .int .i64 j)])
    (fun j => [some (hopV p n U T Z C S, 1106), some (.ints .u8 64 R, 64), some (.ints .u8 8 fun _ => 0, 8), some (.ints .u8 8 fun y => foldT p n T C R false i j y % p, 8), some (algV p n U T, 522)]) (fun j => n - j) 0 (by omega) ?_ ?_ ?_
  · exact (And.intro rfl (And.intro rfl (And.intro rfl (And.intro rfl (And.intro rfl (And.intro rfl (And.intro rfl (And.intro rfl (trivial)))))))))
  · exact And.intro (And.intro (hopR p n U T Z C S) rfl) (And.intro (And.intro (rowEq fun _ _ => rfl) rfl) (And.intro (And.intro (rowEq fun _ _ => rfl) rfl) (And.intro (And.intro (rowEq fun q hq => by show updR _ 0 8 _ q = _; simp [updR, hq, foldT, sumN]) rfl) (And.intro (And.intro (algR p n U T) rfl) trivial))))
  · intro j hj
    refine ifVC_split (fun h => ?_) (fun h => ?_)
    · have hltj := of_decide_eq_true h
      have hjdx : (j : Int).toNat = j := by omega
      refine LoopVC.of (fun k : Nat => k ≤ n) (fun k => [(1, .int .i64 i), (3, .bool false), (4, .ptr 0 [] 0 0), (6, .ptr 1 [] 0 0), (8, .ptr 2 [] 0 0), (9, .ptr 3 [] 0 0), (10, .ptr 4 [] 0 0), (11, .int .i64 j), (12, .int .i64 k)])
        (fun k => [some (hopV p n U T Z C S, 1106), some (.ints .u8 64 R, 64), some (.ints .u8 8 fun _ => 0, 8), some (.ints .u8 8 fun y => (foldT p n T C R false i j y + foldN p T C R false i j k y) % p, 8), some (algV p n U T, 522)]) (fun k => n - k) 0 (by omega) ?_ ?_ ?_
      · exact (And.intro rfl (And.intro rfl (And.intro rfl (And.intro rfl (And.intro rfl (And.intro rfl (And.intro rfl (And.intro rfl (And.intro rfl (trivial))))))))))
      · exact And.intro (And.intro (hopR p n U T Z C S) rfl) (And.intro (And.intro (rowEq fun _ _ => rfl) rfl) (And.intro (And.intro (rowEq fun _ _ => rfl) rfl) (And.intro (And.intro (rowEq fun q hq => by simp [foldN, sumN]) rfl) (And.intro (And.intro (algR p n U T) rfl) trivial))))
      · intro k hk
        refine ifVC_split (fun h => ?_) (fun h => ?_)
        · have hltk := of_decide_eq_true h
          have hkdx : (k : Int).toNat = k := by omega
          have hcv : C ((k : Int).toNat * 1 + ((j : Int).toNat * 8 + ((i : Int).toNat * 64 + 0))) = vecT C i j k := by rw [hjdx, hidx, hkdx]; unfold vecT; congr 1; omega
          have hcb := vec_u8 hV.hC (show i < 8 by omega) (show j < 8 by omega) (show k < 8 by omega)
          (repeat (first | refine And.intro (by omega) ?_ | refine And.intro ⟨by omega, by omega⟩ ?_))
          have hcw : IntKind.i64.wrap (C ((k : Int).toNat * 1 + ((j : Int).toNat * 8 + ((i : Int).toNat * 64 + 0)))) = vecT C i j k := by rw [hcv]; exact wrapI (by omega)
          refine ifVC_split (fun hc => ?_) (fun hc => ?_)
          · refine Exists.intro 8 (And.intro (by kernel_rfl) ?_)
            (repeat (first | refine And.intro (by omega) ?_ | refine And.intro ⟨by omega, by omega⟩ ?_))
            refine Exists.intro (.ints .u8 8 (unitV k)) (And.intro (And.intro rfl (And.intro rfl (Spec.mono (l01Basis_s k (by omega)) fun r m h => by rw [hkdx] at h; exact h.1))) ?_)
            refine Exists.intro (.ints .u8 8 fun y => timS p n T (partF R 8 j) (unitV k) n y % p) (And.intro (And.intro rfl (And.intro rfl ?_)) ?_)
            · refine Spec.mono (l01Times_s p n U T _ _ hp hn hT (fun q hq => hR _ (by omega)) (unitV_u8 k 8)) ?_
              rintro r m ⟨rfl, _⟩
              rw [hjdx]
              rfl
            have hrow : ∀ y, y < 8 → timS p n T (partF R 8 j) (unitV k) n y % p = owF p T R false j k y := fun y hy => prod_eq hV.a (fun m h1 h2 => hRz j m (by omega) h2 h1) (fun m h1 h2 => unitV_ne (by omega)) hy
            (repeat (first | refine And.intro (by omega) ?_ | refine And.intro ⟨by omega, by omega⟩ ?_))
            refine And.intro trivial (Spec.mono (l01Add_s p _ _ _ hp (by rw [hcw]; omega) (fun q hq => modB hp) (fun q hq => by simp only [updR]; rw [if_pos (by omega)]; exact modB hp)) ?_)
            rintro r m ⟨rfl, rfl⟩
            (repeat (first | refine And.intro (by omega) ?_ | refine And.intro ⟨by omega, by omega⟩ ?_))
            refine Exists.intro (k + 1) (And.intro (by omega) (And.intro (by omega) (And.intro (And.intro rfl (And.intro rfl (And.intro rfl (And.intro rfl (And.intro rfl (And.intro rfl (And.intro rfl (And.intro rfl (And.intro (slotI (wrapS (by omega))) trivial))))))))) ?_)))
            refine And.intro (And.intro (hopR p n U T Z C S) rfl) (And.intro (And.intro (rowEq fun _ _ => rfl) rfl) (And.intro (And.intro (rowEq fun _ _ => rfl) rfl) (And.intro (And.intro (rowEq fun q hq => ?_) rfl) (And.intro (And.intro (algR p n U T) rfl) trivial))))
            have e := hrow q hq
            show updR _ 0 8 _ q = (foldT p n T C R false i j q + (foldN p T C R false i j k q + vecT C i j k * owF p T R false j k q)) % p
            simp only [updR, Nat.zero_le, true_and, Nat.zero_add, hq, if_true, Nat.sub_zero, addM, Nat.add_zero]
            simp only [Nat.add_zero] at hcw
            rw [hcw, e, mod_add, Int.add_assoc]
          · have hc : vecT C i j k = 0 := by rw [← hcw]; simpa using hc
            refine Exists.intro (k + 1) (And.intro (by omega) (And.intro (by omega) (And.intro (And.intro rfl (And.intro rfl (And.intro rfl (And.intro rfl (And.intro rfl (And.intro rfl (And.intro rfl (And.intro rfl (And.intro (slotI (wrapS (by omega))) trivial))))))))) ?_)))
            refine And.intro (And.intro (hopR p n U T Z C S) rfl) (And.intro (And.intro (rowEq fun _ _ => rfl) rfl) (And.intro (And.intro (rowEq fun _ _ => rfl) rfl) (And.intro (And.intro (rowEq fun q hq => ?_) rfl) (And.intro (And.intro (algR p n U T) rfl) trivial))))
            show _ = (foldT p n T C R false i j q + (foldN p T C R false i j k q + vecT C i j k * owF p T R false j k q)) % p
            rw [hc]
            simp
        · have hge := of_decide_eq_false h
          obtain rfl : k = n := by omega
          refine Exists.intro (j + 1) (And.intro (by omega) (And.intro (by omega) (And.intro (And.intro rfl (And.intro rfl (And.intro rfl (And.intro rfl (And.intro rfl (And.intro rfl (And.intro rfl (And.intro (slotI (wrapS (by omega))) trivial)))))))) ?_)))
          exact And.intro (And.intro (hopR p k U T Z C S) rfl) (And.intro (And.intro (rowEq fun _ _ => rfl) rfl) (And.intro (And.intro (rowEq fun _ _ => rfl) rfl) (And.intro (And.intro (rowEq fun q hq => rfl) rfl) (And.intro (And.intro (algR p k U T) rfl) trivial))))
    · have hge := of_decide_eq_false h
      obtain rfl : j = n := by omega
      (repeat (first | refine And.intro (by omega) ?_ | refine And.intro ⟨by omega, by omega⟩ ?_))
      refine rowEq fun q hq => ?_
      show updR _ 0 8 _ q = _
      simp [updR, hq]

theorem l03FoldedT_s (p : Int) (n : Nat) (U T Z C S R : Nat → Int) (hV : HV p n U T Z C S) (hR : isU8 64 R) (hRz : ∀ a m, a < 8 → m < 8 → n ≤ m → partF R 8 a m = 0) (i : Nat) (hi : i < n) :
    Spec Tryz.prog 100 [hopV p n U T Z C S, .int .i64 i, .ints .u8 64 R, .bool true] [] (Ret (.ints .u8 8 fun y => foldT p n T C R true i n y % p)) := by
  have hn := hV.a.hn
  have hp := hV.a.hp
  have hT := hV.hT
  have hidx : (i : Int).toNat = i := by omega
  refine Spec.ret rfl (Spec.of_vc tabOK tabEq Tryz.func100 rfl (by kernel_rfl) rfl rfl ?_)
  refine And.intro trivial (Spec.mono (l03Algebra_s p n U T Z C S) ?_)
  rintro r m ⟨rfl, rfl⟩
  (repeat (first | refine And.intro (by omega) ?_ | refine And.intro ⟨by omega, by omega⟩ ?_))
  refine LoopVC.of (fun j : Nat => j ≤ n) (fun j => [(1, .int .i64 i), (3, .bool true), (4, .ptr 0 [] 0 0), (6, .ptr 1 [] 0 0), (8, .ptr 2 [] 0 0), (9, .ptr 3 [] 0 0), (10, .ptr 4 [] 0 0), (11, .int .i64 j)])
    (fun j => [some (hopV p n U T Z C S, 1106), some (.ints .u8 64 R, 64), some (.ints .u8 8 fun _ => 0, 8), some (.ints .u8 8 fun y => foldT p n T C R true i j y % p, 8), some (algV p n U T, 522)]) (fun j => n - j) 0 (by omega) ?_ ?_ ?_
  · exact (And.intro rfl (And.intro rfl (And.intro rfl (And.intro rfl (And.intro rfl (And.intro rfl (And.intro rfl (And.intro rfl (trivial)))))))))
  · exact And.intro (And.intro (hopR p n U T Z C S) rfl) (And.intro (And.intro (rowEq fun _ _ => rfl) rfl) (And.intro (And.intro (rowEq fun _ _ => rfl) rfl) (And.intro (And.intro (rowEq fun q hq => by show updR _ 0 8 _ q = _; simp [updR, hq, foldT, sumN]) rfl) (And.intro (And.intro (algR p n U T) rfl) trivial))))
  · intro j hj
    refine ifVC_split (fun h => ?_) (fun h => ?_)
    · have hltj := of_decide_eq_true h
      have hjdx : (j : Int).toNat = j := by omega
      refine LoopVC.of (fun k : Nat => k ≤ n) (fun k => [(1, .int .i64 i), (3, .bool true), (4, .ptr 0 [] 0 0), (6, .ptr 1 [] 0 0), (8, .ptr 2 [] 0 0), (9, .ptr 3 [] 0 0), (10, .ptr 4 [] 0 0), (11, .int .i64 j), (12, .int .i64 k)])
        (fun k => [some (hopV p n U T Z C S, 1106), some (.ints .u8 64 R, 64), some (.ints .u8 8 fun _ => 0, 8), some (.ints .u8 8 fun y => (foldT p n T C R true i j y + foldN p T C R true i j k y) % p, 8), some (algV p n U T, 522)]) (fun k => n - k) 0 (by omega) ?_ ?_ ?_
      · exact (And.intro rfl (And.intro rfl (And.intro rfl (And.intro rfl (And.intro rfl (And.intro rfl (And.intro rfl (And.intro rfl (And.intro rfl (trivial))))))))))
      · exact And.intro (And.intro (hopR p n U T Z C S) rfl) (And.intro (And.intro (rowEq fun _ _ => rfl) rfl) (And.intro (And.intro (rowEq fun _ _ => rfl) rfl) (And.intro (And.intro (rowEq fun q hq => by simp [foldN, sumN]) rfl) (And.intro (And.intro (algR p n U T) rfl) trivial))))
      · intro k hk
        refine ifVC_split (fun h => ?_) (fun h => ?_)
        · have hltk := of_decide_eq_true h
          have hkdx : (k : Int).toNat = k := by omega
          have hcv : C ((k : Int).toNat * 1 + ((j : Int).toNat * 8 + ((i : Int).toNat * 64 + 0))) = vecT C i j k := by rw [hjdx, hidx, hkdx]; unfold vecT; congr 1; omega
          have hcb := vec_u8 hV.hC (show i < 8 by omega) (show j < 8 by omega) (show k < 8 by omega)
          (repeat (first | refine And.intro (by omega) ?_ | refine And.intro ⟨by omega, by omega⟩ ?_))
          have hcw : IntKind.i64.wrap (C ((k : Int).toNat * 1 + ((j : Int).toNat * 8 + ((i : Int).toNat * 64 + 0)))) = vecT C i j k := by rw [hcv]; exact wrapI (by omega)
          refine ifVC_split (fun hc => ?_) (fun hc => ?_)
          · refine Exists.intro 8 (And.intro (by kernel_rfl) ?_)
            (repeat (first | refine And.intro (by omega) ?_ | refine And.intro ⟨by omega, by omega⟩ ?_))
            refine Exists.intro (.ints .u8 8 (unitV k)) (And.intro (And.intro rfl (And.intro rfl (Spec.mono (l01Basis_s k (by omega)) fun r m h => by rw [hkdx] at h; exact h.1))) ?_)
            refine Exists.intro (.ints .u8 8 fun y => timS p n T (partF R 8 j) (unitV k) n y % p) (And.intro (And.intro rfl (And.intro rfl ?_)) ?_)
            · refine Spec.mono (l01Times_s p n U T _ _ hp hn hT (fun q hq => hR _ (by omega)) (unitV_u8 k 8)) ?_
              rintro r m ⟨rfl, _⟩
              rw [hjdx]
              rfl
            (repeat (first | refine And.intro (by omega) ?_ | refine And.intro ⟨by omega, by omega⟩ ?_))
            refine Exists.intro 7 (And.intro (by kernel_rfl) ?_)
            (repeat (first | refine And.intro (by omega) ?_ | refine And.intro ⟨by omega, by omega⟩ ?_))
            refine Exists.intro (.ints .u8 8 (unitV j)) (And.intro (And.intro rfl (And.intro rfl (Spec.mono (l01Basis_s j (by omega)) fun r m h => by rw [hjdx] at h; exact h.1))) ?_)
            (repeat (first | refine And.intro (by omega) ?_ | refine And.intro ⟨by omega, by omega⟩ ?_))
            refine Exists.intro (.ints .u8 8 fun y => timS p n T (unitV j) (partF R 8 k) n y % p) (And.intro (And.intro rfl (And.intro rfl ?_)) ?_)
            · refine Spec.mono (l01Times_s p n U T _ _ hp hn hT (unitV_u8 j 8) (fun q hq => hR _ (by omega))) ?_
              rintro r m ⟨rfl, _⟩
              rw [hkdx]
              rfl
            have hrow : ∀ y, y < 8 → timS p n T (unitV j) (partF R 8 k) n y % p = owF p T R true j k y := fun y hy => prod_eq hV.a (fun m h1 h2 => unitV_ne (by omega)) (fun m h1 h2 => hRz k m (by omega) h2 h1) hy
            (repeat (first | refine And.intro (by omega) ?_ | refine And.intro ⟨by omega, by omega⟩ ?_))
            refine And.intro trivial (Spec.mono (l01Add_s p _ _ _ hp (by rw [hcw]; omega) (fun q hq => modB hp) (fun q hq => by simp only [updR]; rw [if_pos (by omega)]; exact modB hp)) ?_)
            rintro r m ⟨rfl, rfl⟩
            (repeat (first | refine And.intro (by omega) ?_ | refine And.intro ⟨by omega, by omega⟩ ?_))
            refine Exists.intro (k + 1) (And.intro (by omega) (And.intro (by omega) (And.intro (And.intro rfl (And.intro rfl (And.intro rfl (And.intro rfl (And.intro rfl (And.intro rfl (And.intro rfl (And.intro rfl (And.intro (slotI (wrapS (by omega))) trivial))))))))) ?_)))
            refine And.intro (And.intro (hopR p n U T Z C S) rfl) (And.intro (And.intro (rowEq fun _ _ => rfl) rfl) (And.intro (And.intro (rowEq fun _ _ => rfl) rfl) (And.intro (And.intro (rowEq fun q hq => ?_) rfl) (And.intro (And.intro (algR p n U T) rfl) trivial))))
            have e := hrow q hq
            show updR _ 0 8 _ q = (foldT p n T C R true i j q + (foldN p T C R true i j k q + vecT C i j k * owF p T R true j k q)) % p
            simp only [updR, Nat.zero_le, true_and, Nat.zero_add, hq, if_true, Nat.sub_zero, addM, Nat.add_zero]
            simp only [Nat.add_zero] at hcw
            rw [hcw, e, mod_add, Int.add_assoc]
          · have hc : vecT C i j k = 0 := by rw [← hcw]; simpa using hc
            refine Exists.intro (k + 1) (And.intro (by omega) (And.intro (by omega) (And.intro (And.intro rfl (And.intro rfl (And.intro rfl (And.intro rfl (And.intro rfl (And.intro rfl (And.intro rfl (And.intro rfl (And.intro (slotI (wrapS (by omega))) trivial))))))))) ?_)))
            refine And.intro (And.intro (hopR p n U T Z C S) rfl) (And.intro (And.intro (rowEq fun _ _ => rfl) rfl) (And.intro (And.intro (rowEq fun _ _ => rfl) rfl) (And.intro (And.intro (rowEq fun q hq => ?_) rfl) (And.intro (And.intro (algR p n U T) rfl) trivial))))
            show _ = (foldT p n T C R true i j q + (foldN p T C R true i j k q + vecT C i j k * owF p T R true j k q)) % p
            rw [hc]
            simp
        · have hge := of_decide_eq_false h
          obtain rfl : k = n := by omega
          refine Exists.intro (j + 1) (And.intro (by omega) (And.intro (by omega) (And.intro (And.intro rfl (And.intro rfl (And.intro rfl (And.intro rfl (And.intro rfl (And.intro rfl (And.intro rfl (And.intro (slotI (wrapS (by omega))) trivial)))))))) ?_)))
          exact And.intro (And.intro (hopR p k U T Z C S) rfl) (And.intro (And.intro (rowEq fun _ _ => rfl) rfl) (And.intro (And.intro (rowEq fun _ _ => rfl) rfl) (And.intro (And.intro (rowEq fun q hq => rfl) rfl) (And.intro (And.intro (algR p k U T) rfl) trivial))))
    · have hge := of_decide_eq_false h
      obtain rfl : j = n := by omega
      (repeat (first | refine And.intro (by omega) ?_ | refine And.intro ⟨by omega, by omega⟩ ?_))
      refine rowEq fun q hq => ?_
      show updR _ 0 8 _ q = _
      simp [updR, hq]
end Go.Proofs.YtjanlnngeklhoabGreat

/- The search for the first condition that fails, as the model makes it; both sides tell the same number. -/
set_option linter.unusedVariables false
set_option linter.unusedSimpArgs false
set_option maxRecDepth 100000
set_option maxHeartbeats 1000000
namespace Go.Proofs.YtjanlnngeklhoabGreat
open M

/-! ### the antipode's axioms -/
def antB (p : Int) (n : Nat) (U T Z C R : Nat → Int) (b : Bool) : Bool := (List.range n).all fun i => allEq 8 (fun y => foldT p n T C R b i n y % p) (addM p (fun _ => 0) (Z i) U)

theorem idF_part {n b : Nat} (hb : b < n) : ∀ y, y < 8 → partF (idF n) 8 b y = unitV b y := fun y hy => by
  unfold partF idF
  rw [if_pos (by omega), show (y + b * 8) / 8 = b by omega, show (y + b * 8) % 8 = y by omega]
theorem cw_left {p : Int} {n : Nat} {Z C : Nat → Int} (hV : Valid p n Z (dualF C)) (T R : Nat → Int) {i b : Nat} (hi : i < 8) (hb : b < 8) (y : Nat) : cw p T C R (idF n) i b y = foldN p T C R false i b n y % p := by
  have hn := hV.hn
  unfold cw
  rw [prodF_apply]
  unfold foldN
  rw [sumN_cut 8 hn fun k h1 h2 => by rw [co_zero hV hi hb h2 (.inr (.inr h1))]; simp]
  congr 1
  refine sumN_congr n fun k hk => ?_
  congr 1
  exact prodF_congr (fun _ _ => rfl) (fun y hy => idF_part hk y hy) y
theorem cw_right {p : Int} {n : Nat} {Z C : Nat → Int} (hV : Valid p n Z (dualF C)) (T R : Nat → Int) {i b : Nat} (hi : i < 8) (hb : b < n) (y : Nat) : cw p T C (idF n) R i b y = foldN p T C R true i b n y % p := by
  have hn := hV.hn
  unfold cw
  rw [prodF_apply]
  unfold foldN
  rw [sumN_cut 8 hn fun k h1 h2 => by rw [co_zero hV hi (by omega) h2 (.inr (.inr h1))]; simp]
  congr 1
  refine sumN_congr n fun k hk => ?_
  congr 1
  exact prodF_congr (fun y hy => idF_part hb y hy) (fun _ _ => rfl) y
theorem conv_fold {p : Int} {n : Nat} {T C R F G : Nat → Int} {b : Bool} {i y : Nat} (h : ∀ a, a < n → cw p T C F G i a y = foldN p T C R b i a n y % p) : convN p T C F G i n y % p = foldT p n T C R b i n y % p := by
  unfold convN foldT
  rw [sumN_congr n h, sumN_modl]
theorem ant_is {p : Int} {n : Nat} {U T Z C S R F G : Nat → Int} {b : Bool} (hV : HV p n U T Z C S) (h : ∀ i y, i < n → convN p T C F G i n y % p = foldT p n T C R b i n y % p) :
    antB p n U T Z C R b = allEq 64 (convF p n T C F G) (tenF p Z U) := by
  have hn := hV.a.hn
  rw [Bool.eq_iff_iff]
  constructor
  · intro ha
    refine List.all_eq_true.2 fun q hq => ?_
    have hq := List.mem_range.1 hq
    unfold convF tenF
    by_cases hr : q / 8 < n
    · have := allEq_get (List.all_eq_true.1 ha (q / 8) (List.mem_range.2 hr)) (show q % 8 < 8 by omega)
      rw [if_pos hr, h _ _ hr]
      unfold addM at this
      rw [Int.zero_add] at this
      simpa using this
    · rw [if_neg hr, hV.c.uzero (q / 8) (by omega) (by omega)]
      simp
  · intro ha
    refine List.all_eq_true.2 fun i hi => List.all_eq_true.2 fun y hy => ?_
    have hi := List.mem_range.1 hi
    have hy := List.mem_range.1 hy
    have := allEq_get ha (show i * 8 + y < 64 by omega)
    unfold convF tenF at this
    rw [show (i * 8 + y) / 8 = i by omega, show (i * 8 + y) % 8 = y by omega, if_pos hi, h _ _ hi] at this
    unfold addM
    rw [Int.zero_add]
    simpa using this
theorem ant_left {p : Int} {n : Nat} {U T Z C S : Nat → Int} (hV : HV p n U T Z C S) : antB p n U T Z C S false = ax6B p n U T Z C S := by
  have hn := hV.a.hn
  exact ant_is hV fun i y hi => conv_fold fun a ha => cw_left hV.c T S (by omega) (by omega) y
theorem ant_right {p : Int} {n : Nat} {U T Z C S : Nat → Int} (hV : HV p n U T Z C S) : antB p n U T Z C S true = ax7B p n U T Z C S := by
  have hn := hV.a.hn
  exact ant_is hV fun i y hi => conv_fold fun a ha => cw_right hV.c T S (by omega) ha y

theorem l03Folded_s {p : Int} {n : Nat} {U T Z C S R : Nat → Int} (hV : HV p n U T Z C S) (hR : isU8 64 R) (hRz : ∀ a m, a < 8 → m < 8 → n ≤ m → partF R 8 a m = 0) (b : Bool) (i : Nat) (hi : i < n) :
    Spec Tryz.prog 100 [hopV p n U T Z C S, .int .i64 i, .ints .u8 64 R, .bool b] [] (Ret (.ints .u8 8 fun y => foldT p n T C R b i n y % p)) := by
  cases b
  · exact l03FoldedF_s p n U T Z C S R hV hR hRz i hi
  · exact l03FoldedT_s p n U T Z C S R hV hR hRz i hi

theorem l03Antipode_s (p : Int) (n : Nat) (U T Z C S R : Nat → Int) (hV : HV p n U T Z C S) (hR : isU8 64 R) (hRz : ∀ a m, a < 8 → m < 8 → n ≤ m → partF R 8 a m = 0) (b : Bool) :
    Spec Tryz.prog 75 [hopV p n U T Z C S, .ints .u8 64 R, .bool b] [] (Ret (.bool (antB p n U T Z C R b))) := by
  have hn := hV.a.hn
  have hp := hV.a.hp
  refine Spec.ret rfl (Spec.of_vc tabOK tabEq Tryz.func75 rfl (by kernel_rfl) rfl rfl ?_)
  refine LoopVC.of (fun i : Nat => i ≤ n ∧ ∀ i', i' < i → allEq 8 (fun y => foldT p n T C R b i' n y % p) (addM p (fun _ => 0) (Z i') U) = true) (fun i => [(2, .bool b), (3, .ptr 0 [] 0 0), (4, .ptr 1 [] 0 0), (7, .int .i64 i)]) (fun _ => [some (hopV p n U T Z C S, 1106), some (.ints .u8 64 R, 64)]) (fun i => n - i) 0 ⟨by omega, fun i' h => by omega⟩ ?_ ?_ ?_
  · exact (And.intro rfl (And.intro rfl (And.intro rfl (And.intro rfl (trivial)))))
  · exact And.intro (And.intro (hopR p n U T Z C S) rfl) (And.intro (And.intro (rowEq fun _ _ => rfl) rfl) trivial)
  · rintro i ⟨hi, hall⟩
    refine ifVC_split (fun h => ?_) (fun h => ?_)
    · have hlt := of_decide_eq_true h
      have hzi := hV.hZ i (by omega)
      have hzw : IntKind.i64.wrap (Z ((i : Int).toNat * 1 + 0)) = Z i := by rw [show (i : Int).toNat * 1 + 0 = i by omega]; exact wrapI (by omega)
      refine Exists.intro 16 (And.intro (by kernel_rfl) ?_)
      (repeat (first | refine And.intro (by omega) ?_ | refine And.intro ⟨by omega, by omega⟩ ?_))
      refine Exists.intro (.ints .u8 8 fun y => foldT p n T C R b i n y % p) (And.intro (And.intro rfl (And.intro rfl (Spec.mono (l03Folded_s hV (fun q hq => hR _ (by omega)) hRz b i (by omega)) fun r m h => h.1))) ?_)
      (repeat (first | refine And.intro (by omega) ?_ | refine And.intro ⟨by omega, by omega⟩ ?_))
      refine Exists.intro (.ints .u8 8 (addM p (fun _ => 0) (Z i) U)) (And.intro (And.intro rfl (And.intro rfl ?_)) ?_)
      · refine Spec.mono (l01Add_s p _ _ _ hp (by rw [hzw]; omega) (fun q _ => by constructor <;> omega) (fun q hq => hV.hU _ (by omega))) ?_
        rintro r m ⟨rfl, _⟩
        rw [hzw]
        rfl
      refine ifVC_split (fun hc => ?_) (fun hc => ?_)
      · have hc : allEq 8 (fun y => foldT p n T C R b i n y % p) (addM p (fun _ => 0) (Z i) U) = false := by simpa using hc
        refine boolEq ?_
        cases ha : antB p n U T Z C R b with
        | false => rfl
        | true => have := List.all_eq_true.1 ha i (List.mem_range.2 (by omega)); rw [hc] at this; cases this
      · have hc : allEq 8 (fun y => foldT p n T C R b i n y % p) (addM p (fun _ => 0) (Z i) U) = true := by simpa using hc
        refine Exists.intro (i + 1) (And.intro ⟨by omega, fun i' hi' => ?_⟩ (And.intro (by omega) (And.intro (And.intro rfl (And.intro rfl (And.intro rfl (And.intro (slotI (wrapS (by omega))) trivial)))) (And.intro (And.intro (hopR p n U T Z C S) rfl) (And.intro (And.intro (rowEq fun _ _ => rfl) rfl) trivial)))))
        by_cases hii : i' = i
        · subst hii; exact hc
        · exact hall i' (by omega)
    · have hge := of_decide_eq_false h
      obtain rfl : i = n := by omega
      exact boolEq (by
        have : antB p i U T Z C R b = true := List.all_eq_true.2 fun i' hi' => hall i' (List.mem_range.1 hi')
        rw [this])

/-! ### the axioms of bialgebras -/
def biN (p : Int) (n : Nat) (U T Z C : Nat → Int) : Nat :=
  if algB p n U T = false then 1 else if coB p n Z C = false then 2 else if all2 n (ax3 p T C) = false then 3 else if ax4B p U C = false then 4
  else if (all2 n (ax5 p T Z) && (cnt p Z U == 1)) = false then 5 else 0
theorem fail_bi (p : Int) (n : Nat) (U T Z C S : Nat → Int) : failN p n U T Z C S = if biN p n U T Z C = 0 then (if ax6B p n U T Z C S = false then 6 else if ax7B p n U T Z C S = false then 7 else 0) else biN p n U T Z C := by
  unfold failN biN
  by_cases h0 : algB p n U T = false
  · simp [h0]
  by_cases h1 : coB p n Z C = false
  · simp [h0, h1]
  by_cases h2 : all2 n (ax3 p T C) = false
  · simp [h0, h1, h2]
  by_cases h3 : ax4B p U C = false
  · simp [h0, h1, h2, h3]
  by_cases h4 : (all2 n (ax5 p T Z) && (cnt p Z U == 1)) = false
  · rw [if_neg h0, if_neg h1, if_neg h2, if_neg h3, if_pos h4, if_neg h0, if_neg h1, if_neg h2, if_neg h3, if_pos h4]; simp
  · rw [if_neg h0, if_neg h1, if_neg h2, if_neg h3, if_neg h4, if_neg h0, if_neg h1, if_neg h2, if_neg h3, if_neg h4]; simp

def rowU (p : Int) (U C : Nat → Int) (j : Nat) : Bool := allEq 8 (partF (leftT p C U) 8 j) (addM p (fun _ => 0) (U j) U)
theorem ax4_yes {p : Int} {n : Nat} {U T Z C S : Nat → Int} (hV : HV p n U T Z C S) (h : ∀ j, j < n → rowU p U C j = true) : ax4B p U C = true := by
  have hn := hV.a.hn
  refine List.all_eq_true.2 fun q hq => ?_
  have hq := List.mem_range.1 hq
  unfold tenF
  by_cases hr : q / 8 < n
  · have := allEq_get (h _ hr) (show q % 8 < 8 by omega)
    unfold partF addM at this
    rw [show q % 8 + q / 8 * 8 = q by omega, Int.zero_add] at this
    simpa using this
  · rw [cop_left hV.c (fun i h1 h2 => hV.a.uzero i h2 h1) hq, if_neg hr, hV.a.uzero (q / 8) (by omega) (by omega)]
    simp
theorem ax4_no {p : Int} {U C : Nat → Int} {j : Nat} (hj : j < 8) (h : rowU p U C j = false) : ax4B p U C = false := by
  cases ha : ax4B p U C with
  | false => rfl
  | true =>
    have : rowU p U C j = true := List.all_eq_true.2 fun y hy => by
      have hy := List.mem_range.1 hy
      have := allEq_get ha (show y + j * 8 < 64 by omega)
      unfold tenF at this
      rw [show (y + j * 8) / 8 = j by omega, show (y + j * 8) % 8 = y by omega] at this
      unfold partF addM
      rw [Int.zero_add]
      simpa using this
    rw [h] at this; cases this

theorem co_part {p : Int} {n : Nat} {U T Z C S : Nat → Int} (hV : HV p n U T Z C S) {i : Nat} (hi : i < 8) : ∀ a m, a < 8 → m < 8 → n ≤ m → partF (partF C 64 i) 8 a m = 0 := fun a m ha hm h => by
  have := co_zero hV.c hi ha hm (.inr (.inr h))
  unfold vecT at this
  unfold partF
  rw [Nat.add_assoc]
  exact this

theorem l03Bialgebra_s (p : Int) (n : Nat) (U T Z C S : Nat → Int) (hV : HV p n U T Z C S) : Spec Tryz.prog 74 [hopV p n U T Z C S] [] (Ret (.int .i64 (biN p n U T Z C))) := by
  have hn := hV.a.hn
  have hp := hV.a.hp
  refine Spec.ret rfl (Spec.of_vc tabOK tabEq Tryz.func74 rfl (by kernel_rfl) rfl rfl ?_)
  refine Exists.intro 6 (And.intro (by kernel_rfl) ?_)
  refine Exists.intro (algV p n U T) (And.intro (And.intro rfl (And.intro rfl (Spec.mono (l03Algebra_s p n U T Z C S) fun r m h => h.1))) ?_)
  refine And.intro trivial (Spec.mono (l01Is_s p n U T hV.hU hV.hT) ?_)
  rintro r m ⟨rfl, rfl⟩
  refine ifVC_split (fun h0 => ?_) (fun h0 => ?_)
  · have h0 : algB p n U T = false := by simpa using h0
    exact slotI (by unfold biN; rw [if_pos h0]; rfl)
  have h0 : algB p n U T = true := by simpa using h0
  have n0 : ¬ algB p n U T = false := by rw [h0]; simp
  refine And.intro trivial (Spec.mono (l03Coalgebra_s p n U T Z C S) ?_)
  rintro r m ⟨rfl, rfl⟩
  refine And.intro trivial (Spec.mono (l02Is_s p n Z C hV.hZ hV.hC) ?_)
  rintro r m ⟨rfl, rfl⟩
  refine ifVC_split (fun h1 => ?_) (fun h1 => ?_)
  · have h1 : coB p n Z C = false := by simpa using h1
    exact slotI (by unfold biN; rw [if_neg n0, if_pos h1]; rfl)
  have h1 : coB p n Z C = true := by simpa using h1
  have n1 : ¬ coB p n Z C = false := by rw [h1]; simp
  refine LoopVC.of (fun i : Nat => i ≤ n ∧ ∀ a b, a < i → b < n → ax3 p T C a b = true) (fun i => [(1, .ptr 0 [] 0 0), (3, .int .i64 n), (5, .int .i64 i)]) (fun _ => [some (hopV p n U T Z C S, 1106), none]) (fun i => n - i) 0 ⟨by omega, fun a b h => by omega⟩ ?_ ?_ ?_
  · exact (And.intro rfl (And.intro rfl (And.intro rfl (trivial))))
  · exact And.intro (And.intro (hopR p n U T Z C S) rfl) trivial
  · rintro i ⟨hi, hall⟩
    refine ifVC_split (fun h => ?_) (fun h => ?_)
    · have hlti := of_decide_eq_true h
      have hidx : (i : Int).toNat = i := by omega
      refine LoopVC.of (fun j : Nat => j ≤ n ∧ ∀ b, b < j → ax3 p T C i b = true) (fun j => [(1, .ptr 0 [] 0 0), (3, .int .i64 n), (5, .int .i64 i), (6, .int .i64 j)]) (fun _ => [some (hopV p n U T Z C S, 1106), none]) (fun j => n - j) 0 ⟨by omega, fun b h => by omega⟩ ?_ ?_ ?_
      · exact (And.intro rfl (And.intro rfl (And.intro rfl (And.intro rfl (trivial)))))
      · exact And.intro (And.intro (hopR p n U T Z C S) rfl) trivial
      · rintro j ⟨hj, hallj⟩
        refine ifVC_split (fun h => ?_) (fun h => ?_)
        · have hltj := of_decide_eq_true h
          have hjdx : (j : Int).toNat = j := by omega
          refine Exists.intro 18 (And.intro (by kernel_rfl) ?_)
          (repeat (first | refine And.intro (by omega) ?_ | refine And.intro ⟨by omega, by omega⟩ ?_))
          refine Exists.intro (.ints .u8 64 (leftT p C (vecT T i j))) (And.intro (And.intro rfl (And.intro rfl ?_)) ?_)
          · rw [vec_is T i j hidx hjdx]
            exact Spec.mono (l03Coproduct_s p n U T Z C S _ hV.c hV.hC (vecT_u8 hV.hT (by omega) (by omega)) (fun m h1 h2 => hV.a.zero i j m (by omega) (by omega) h2 (.inr (.inr h1)))) fun r m h => h.1
          (repeat (first | refine And.intro (by omega) ?_ | refine And.intro ⟨by omega, by omega⟩ ?_))
          refine Exists.intro (.ints .u8 64 (pairsF p T (partF C 64 i) (partF C 64 j))) (And.intro (And.intro rfl (And.intro rfl ?_)) ?_)
          · rw [row_is C i hidx, row_is C j hjdx]
            exact Spec.mono (l03Pairs_s p n U T Z C S _ _ hV (part_u8 hV.hC (by omega)) (part_u8 hV.hC (by omega)) (co_part hV (by omega)) (co_part hV (by omega))) fun r m h => h.1
          refine ifVC_split (fun hc => ?_) (fun hc => ?_)
          · have hc : ax3 p T C i j = false := by
              unfold ax3
              simpa using hc
            exact slotI (by unfold biN; rw [if_neg n0, if_neg n1, if_pos (all2_no (by omega) (by omega) hc)]; rfl)
          · have hc : ax3 p T C i j = true := by
              unfold ax3
              simpa using hc
            refine Exists.intro (j + 1) (And.intro ⟨by omega, fun b hb => ?_⟩ (And.intro (by omega) (And.intro (And.intro rfl (And.intro rfl (And.intro rfl (And.intro (slotI (wrapS (by omega))) trivial)))) (And.intro (And.intro (hopR p n U T Z C S) rfl) trivial))))
            by_cases hbj : b = j
            · subst hbj; exact hc
            · exact hallj b (by omega)
        · have hge := of_decide_eq_false h
          refine Exists.intro (i + 1) (And.intro ⟨by omega, fun a b ha hb => ?_⟩ (And.intro (by omega) (And.intro (And.intro rfl (And.intro rfl (And.intro (slotI (wrapS (by omega))) trivial))) (And.intro (And.intro (hopR p n U T Z C S) rfl) trivial))))
          by_cases hai : a = i
          · subst hai; exact hallj b (by omega)
          · exact hall a b (by omega) hb
    · have hge := of_decide_eq_false h
      have h3 : all2 n (ax3 p T C) = true := all2_yes fun a b ha hb => hall a b (by omega) hb
      have n3 : ¬ all2 n (ax3 p T C) = false := by rw [h3]; simp
      (repeat (first | refine And.intro (by omega) ?_ | refine And.intro ⟨by omega, by omega⟩ ?_))
      refine And.intro trivial (Spec.mono (l03Coproduct_s p n U T Z C S _ hV.c hV.hC (fun q hq => hV.hU _ (by omega)) (fun m h1 h2 => hV.a.uzero m h2 h1)) ?_)
      rintro r m ⟨rfl, rfl⟩
      (repeat (first | refine And.intro (by omega) ?_ | refine And.intro ⟨by omega, by omega⟩ ?_))
      refine LoopVC.of (fun j : Nat => j ≤ n ∧ ∀ b, b < j → rowU p U C b = true) (fun j => [(1, .ptr 0 [] 0 0), (3, .int .i64 n), (7, .ptr 2 [] 0 0), (8, .int .i64 j)]) (fun _ => [some (hopV p n U T Z C S, 1106), none, some (.ints .u8 64 (leftT p C U), 64)]) (fun j => n - j) 0 ⟨by omega, fun b h => by omega⟩ ?_ ?_ ?_
      · exact (And.intro rfl (And.intro rfl (And.intro rfl (And.intro rfl (trivial)))))
      · exact And.intro (And.intro (hopR p n U T Z C S) rfl) (And.intro (And.intro (rowEq fun q hq => upd0 hq) rfl) trivial)
      · rintro j ⟨hj, hallj⟩
        refine ifVC_split (fun h => ?_) (fun h => ?_)
        · have hltj := of_decide_eq_true h
          have hjdx : (j : Int).toNat = j := by omega
          have huj := hV.hU j (by omega)
          have huw : IntKind.i64.wrap (U ((j : Int).toNat * 1 + 0)) = U j := by rw [show (j : Int).toNat * 1 + 0 = j by omega]; exact wrapI (by omega)
          refine Exists.intro 14 (And.intro (by kernel_rfl) ?_)
          (repeat (first | refine And.intro (by omega) ?_ | refine And.intro ⟨by omega, by omega⟩ ?_))
          refine Exists.intro (.ints .u8 8 (addM p (fun _ => 0) (U j) U)) (And.intro (And.intro rfl (And.intro rfl ?_)) ?_)
          · refine Spec.mono (l01Add_s p _ _ _ hp (by rw [huw]; omega) (fun q _ => by constructor <;> omega) (fun q hq => hV.hU _ (by omega))) ?_
            rintro r m ⟨rfl, _⟩
            rw [huw]
            rfl
          have he : allEq 8 (fun q => leftT p C U (q + ((j : Int).toNat * 8 + 0))) (addM p (fun _ => 0) (U j) U) = rowU p U C j := by rw [hjdx]; rfl
          refine ifVC_split (fun hc => ?_) (fun hc => ?_)
          · have hc : rowU p U C j = false := by rw [← he]; simpa using hc
            exact slotI (by unfold biN; rw [if_neg n0, if_neg n1, if_neg n3, if_pos (ax4_no (by omega) hc)]; rfl)
          · have hc : rowU p U C j = true := by rw [← he]; simpa using hc
            refine Exists.intro (j + 1) (And.intro ⟨by omega, fun b hb => ?_⟩ (And.intro (by omega) (And.intro (And.intro rfl (And.intro rfl (And.intro rfl (And.intro (slotI (wrapS (by omega))) trivial)))) (And.intro (And.intro (hopR p n U T Z C S) rfl) (And.intro (And.intro (rowEq fun _ _ => rfl) rfl) trivial)))))
            by_cases hbj : b = j
            · subst hbj; exact hc
            · exact hallj b (by omega)
        · have hge := of_decide_eq_false h
          have h4 : ax4B p U C = true := ax4_yes hV fun b hb => hallj b (by omega)
          have n4 : ¬ ax4B p U C = false := by rw [h4]; simp
          refine LoopVC.of (fun i : Nat => i ≤ n ∧ ∀ a b, a < i → b < n → ax5 p T Z a b = true) (fun i => [(1, .ptr 0 [] 0 0), (3, .int .i64 n), (9, .int .i64 i)]) (fun _ => [some (hopV p n U T Z C S, 1106), none, none]) (fun i => n - i) 0 ⟨by omega, fun a b h => by omega⟩ ?_ ?_ ?_
          · exact (And.intro rfl (And.intro rfl (And.intro rfl (trivial))))
          · exact And.intro (And.intro (hopR p n U T Z C S) rfl) trivial
          · rintro i ⟨hi, hall5⟩
            refine ifVC_split (fun h => ?_) (fun h => ?_)
            · have hlti := of_decide_eq_true h
              have hidx : (i : Int).toNat = i := by omega
              refine LoopVC.of (fun j : Nat => j ≤ n ∧ ∀ b, b < j → ax5 p T Z i b = true) (fun j => [(1, .ptr 0 [] 0 0), (3, .int .i64 n), (9, .int .i64 i), (10, .int .i64 j)]) (fun _ => [some (hopV p n U T Z C S, 1106), none, none]) (fun j => n - j) 0 ⟨by omega, fun b h => by omega⟩ ?_ ?_ ?_
              · exact (And.intro rfl (And.intro rfl (And.intro rfl (And.intro rfl (trivial)))))
              · exact And.intro (And.intro (hopR p n U T Z C S) rfl) trivial
              · rintro j ⟨hj, hallj⟩
                refine ifVC_split (fun h => ?_) (fun h => ?_)
                · have hltj := of_decide_eq_true h
                  have hjdx : (j : Int).toNat = j := by omega
                  refine Exists.intro 22 (And.intro (by kernel_rfl) ?_)
                  (repeat (first | refine And.intro (by omega) ?_ | refine And.intro ⟨by omega, by omega⟩ ?_))
                  refine Exists.intro (.int .i64 (cnt p Z (vecT T i j))) (And.intro (And.intro rfl (And.intro rfl ?_)) ?_)
                  · rw [vec_is T i j hidx hjdx]
                    exact Spec.mono (l03Counit_s p n U T Z C S _ hp hn hV.hZ (vecT_u8 hV.hT (by omega) (by omega)) (fun m h1 h2 => hV.a.zero i j m (by omega) (by omega) h2 (.inr (.inr h1)))) fun r m h => h.1
                  (repeat (first | refine And.intro (by omega) ?_ | refine And.intro ⟨by omega, by omega⟩ ?_))
                  have zi := hV.hZ i (by omega)
                  have zj := hV.hZ j (by omega)
                  have zz := mulB zi zj
                  have hb : IntKind.i64.wrap (IntKind.i64.wrap (Z ((i : Int).toNat * 1 + 0)) * IntKind.i64.wrap (Z ((j : Int).toNat * 1 + 0))) = Z i * Z j := by
                    rw [show (i : Int).toNat * 1 + 0 = i by omega, show (j : Int).toNat * 1 + 0 = j by omega, wrapI (x := Z i) (by omega), wrapI (x := Z j) (by omega), wrapI (by omega)]
                  refine ifVC_split (fun hc => ?_) (fun hc => ?_)
                  · have hc : ax5 p T Z i j = false := by rw [hb, Int.tmod_eq_emod_of_nonneg zz.1] at hc; unfold ax5; simpa using hc
                    exact slotI (by unfold biN; rw [if_neg n0, if_neg n1, if_neg n3, if_neg n4, if_pos (by rw [all2_no (by omega) (by omega) hc]; rfl)]; rfl)
                  · have hc : ax5 p T Z i j = true := by rw [hb, Int.tmod_eq_emod_of_nonneg zz.1] at hc; unfold ax5; simpa using hc
                    refine Exists.intro (j + 1) (And.intro ⟨by omega, fun b hb => ?_⟩ (And.intro (by omega) (And.intro (And.intro rfl (And.intro rfl (And.intro rfl (And.intro (slotI (wrapS (by omega))) trivial)))) (And.intro (And.intro (hopR p n U T Z C S) rfl) trivial))))
                    by_cases hbj : b = j
                    · subst hbj; exact hc
                    · exact hallj b (by omega)
                · have hge := of_decide_eq_false h
                  refine Exists.intro (i + 1) (And.intro ⟨by omega, fun a b ha hb => ?_⟩ (And.intro (by omega) (And.intro (And.intro rfl (And.intro rfl (And.intro (slotI (wrapS (by omega))) trivial))) (And.intro (And.intro (hopR p n U T Z C S) rfl) trivial))))
                  by_cases hai : a = i
                  · subst hai; exact hallj b (by omega)
                  · exact hall5 a b (by omega) hb
            · have hge := of_decide_eq_false h
              have h5 : all2 n (ax5 p T Z) = true := all2_yes fun a b ha hb => hall5 a b (by omega) hb
              (repeat (first | refine And.intro (by omega) ?_ | refine And.intro ⟨by omega, by omega⟩ ?_))
              refine And.intro trivial (Spec.mono (l03Counit_s p n U T Z C S _ hp hn hV.hZ (fun q hq => hV.hU _ (by omega)) (fun m h1 h2 => hV.a.uzero m h2 h1)) ?_)
              rintro r m ⟨rfl, rfl⟩
              have he : cnt p Z (fun j => U (j + 0)) = cnt p Z U := rfl
              refine ifVC_split (fun hc => ?_) (fun hc => ?_)
              · have hc : (cnt p Z U == 1) = false := by rw [← he]; simpa using hc
                exact slotI (by unfold biN; rw [if_neg n0, if_neg n1, if_neg n3, if_neg n4, if_pos (by rw [hc, Bool.and_false])]; rfl)
              · have hc : (cnt p Z U == 1) = true := by rw [← he]; simpa using hc
                exact slotI (by unfold biN; rw [if_neg n0, if_neg n1, if_neg n3, if_neg n4, if_neg (by rw [h5, hc]; simp)]; rfl)

theorem s_part {p : Int} {n : Nat} {U T Z C S : Nat → Int} (hV : HV p n U T Z C S) : ∀ a m, a < 8 → m < 8 → n ≤ m → partF S 8 a m = 0 := fun a m ha hm h => hV.szero a m ha hm (.inr h)

theorem anti_as (p : Int) (n : Nat) (U T Z C S : Nat → Int) (hV : HV p n U T Z C S) (b : Bool) :
    Spec Tryz.prog 75 [hopV p n U T Z C S, .ints .u8 64 (fun j => S (j + 0)), .bool b] [] (Ret (.bool (match b with | false => ax6B p n U T Z C S | true => ax7B p n U T Z C S))) := by
  cases b
  · have e : antB p n U T Z C (fun j => S (j + 0)) false = ax6B p n U T Z C S := ant_left hV
    show Spec Tryz.prog 75 _ [] (Ret (.bool (ax6B p n U T Z C S)))
    rw [← e]
    exact l03Antipode_s p n U T Z C S _ hV (fun q hq => hV.hS _ (by omega)) (s_part hV) false
  · have e : antB p n U T Z C (fun j => S (j + 0)) true = ax7B p n U T Z C S := ant_right hV
    show Spec Tryz.prog 75 _ [] (Ret (.bool (ax7B p n U T Z C S)))
    rw [← e]
    exact l03Antipode_s p n U T Z C S _ hV (fun q hq => hV.hS _ (by omega)) (s_part hV) true

theorem l03Fails_s (p : Int) (n : Nat) (U T Z C S : Nat → Int) (hV : HV p n U T Z C S) : Spec Tryz.prog 53 [hopV p n U T Z C S] [] (Ret (.int .i64 (failN p n U T Z C S))) := by
  refine Spec.ret rfl (Spec.of_vc tabOK tabEq Tryz.func53 rfl (by kernel_rfl) rfl rfl ?_)
  refine And.intro trivial (Spec.mono (l03Bialgebra_s p n U T Z C S hV) ?_)
  rintro r m ⟨rfl, rfl⟩
  refine ifVC_split (fun h => ?_) (fun h => ?_)
  · have h : ¬ biN p n U T Z C = 0 := by
      have h : (biN p n U T Z C : Int) ≠ 0 := by simpa using h
      omega
    exact slotI (by rw [fail_bi, if_neg h])
  have h : biN p n U T Z C = 0 := by
    have h : (biN p n U T Z C : Int) = 0 := by simpa using h
    omega
  (repeat (first | refine And.intro (by omega) ?_ | refine And.intro ⟨by omega, by omega⟩ ?_))
  refine And.intro trivial (Spec.mono (anti_as p n U T Z C S hV false) ?_)
  rintro r m ⟨rfl, rfl⟩
  refine ifVC_split (fun h6 => ?_) (fun h6 => ?_)
  · have h6 : ax6B p n U T Z C S = false := by simpa using h6
    exact slotI (by rw [fail_bi, if_pos h, if_pos h6]; rfl)
  have h6 : ax6B p n U T Z C S = true := by simpa using h6
  (repeat (first | refine And.intro (by omega) ?_ | refine And.intro ⟨by omega, by omega⟩ ?_))
  refine And.intro trivial (Spec.mono (anti_as p n U T Z C S hV true) ?_)
  rintro r m ⟨rfl, rfl⟩
  refine ifVC_split (fun h7 => ?_) (fun h7 => ?_)
  · have h7 : ax7B p n U T Z C S = false := by simpa using h7
    exact slotI (by rw [fail_bi, if_pos h, if_neg (by rw [h6]; simp), if_pos h7]; rfl)
  have h7 : ax7B p n U T Z C S = true := by simpa using h7
  exact slotI (by rw [fail_bi, if_pos h, if_neg (by rw [h6]; simp), if_neg (by rw [h7]; simp)]; rfl)

theorem l03Is_s (p n : Int) (U T Z C S : Nat → Int) (hU : isU8 8 U) (hT : isU8 512 T) (hZ : isU8 8 Z) (hC : isU8 512 C) (hS : isU8 64 S) :
    Spec Tryz.prog 32 [hopV p n U T Z C S] [] (Ret (.bool (hopB p n U T Z C S))) := by
  refine Spec.ret rfl (Spec.of_vc tabOK tabEq Tryz.func32 rfl (by kernel_rfl) rfl rfl ?_)
  refine And.intro trivial (Spec.mono (l03Shape_s p n U T Z C S hU hT hZ hC hS) ?_)
  rintro r m ⟨rfl, rfl⟩
  refine ifVC_split (fun h => ?_) (fun h => ?_)
  · obtain ⟨n, rfl, hV⟩ := hsh_valid hU hT hZ hC hS h
    refine And.intro trivial (Spec.mono (l03Fails_s p n U T Z C S hV) ?_)
    rintro r m ⟨rfl, rfl⟩
    refine boolEq ?_
    unfold hopB
    rw [h, Bool.true_and, Int.toNat_natCast, Bool.eq_iff_iff, beq_iff_eq, beq_iff_eq]
    omega
  · exact boolEq (by unfold hopB; rw [h]; rfl)
end Go.Proofs.YtjanlnngeklhoabGreat

/- Functions of one Hopf algebra, on both sides, and the laws. -/
set_option linter.unusedVariables false
set_option linter.unusedSimpArgs false
set_option maxRecDepth 100000
set_option maxHeartbeats 1000000
namespace Go.Proofs.YtjanlnngeklhoabGreat
open M

/-- nothing but zeros -/
abbrev zr : Nat → Int := fun _ => 0
theorem toHopf_s (p n : Int) (U T Z C S : Nat → Int) : Spec Tryz.prog 6 [hopV p n U T Z C S] [] (Ret (hopV p n U T Z C S)) := by
  refine Spec.ret rfl (Spec.of_vc tabOK tabEq Tryz.func6 rfl (by kernel_rfl) rfl rfl ?_)
  (repeat (first | refine And.intro (by omega) ?_ | refine And.intro ⟨by omega, by omega⟩ ?_))
  refine And.intro trivial (Spec.mono (toVector_s _) ?_)
  rintro r m ⟨rfl, rfl⟩
  change opsVC _ _ _ _ _ _ [some (hopV p n U T Z C S, 1106), some (hopV 0 0 zr zr zr zr zr, 1106), some (hopV p n zr zr zr zr zr, 1106)] _
  (repeat (first | refine And.intro (by omega) ?_ | refine And.intro ⟨by omega, by omega⟩ ?_))
  refine And.intro trivial (Spec.mono (toTable_s _) ?_)
  rintro r m ⟨rfl, rfl⟩
  change opsVC _ _ _ _ _ _ [some (hopV p n U T Z C S, 1106), some (hopV 0 0 zr zr zr zr zr, 1106), some (hopV p n (updR zr 0 8 U) zr zr zr zr, 1106)] _
  (repeat (first | refine And.intro (by omega) ?_ | refine And.intro ⟨by omega, by omega⟩ ?_))
  refine And.intro trivial (Spec.mono (toVector_s _) ?_)
  rintro r m ⟨rfl, rfl⟩
  change opsVC _ _ _ _ _ _ [some (hopV p n U T Z C S, 1106), some (hopV 0 0 zr zr zr zr zr, 1106), some (hopV p n (updR zr 0 8 U) (updR zr 0 512 T) zr zr zr, 1106)] _
  (repeat (first | refine And.intro (by omega) ?_ | refine And.intro ⟨by omega, by omega⟩ ?_))
  refine And.intro trivial (Spec.mono (toTable_s _) ?_)
  rintro r m ⟨rfl, rfl⟩
  change opsVC _ _ _ _ _ _ [some (hopV p n U T Z C S, 1106), some (hopV 0 0 zr zr zr zr zr, 1106), some (hopV p n (updR zr 0 8 U) (updR zr 0 512 T) (updR zr 0 8 Z) zr zr, 1106)] _
  (repeat (first | refine And.intro (by omega) ?_ | refine And.intro ⟨by omega, by omega⟩ ?_))
  refine And.intro trivial (Spec.mono (toLinear_s _) ?_)
  rintro r m ⟨rfl, rfl⟩
  change opsVC _ _ _ _ _ _ [some (hopV p n U T Z C S, 1106), some (hopV 0 0 zr zr zr zr zr, 1106), some (hopV p n (updR zr 0 8 U) (updR zr 0 512 T) (updR zr 0 8 Z) (updR zr 0 512 C) zr, 1106)] _
  (repeat (first | refine And.intro (by omega) ?_ | refine And.intro ⟨by omega, by omega⟩ ?_))
  exact hopE p n (fun j hj => upd0 hj) (fun j hj => upd0 hj) (fun j hj => upd0 hj) (fun j hj => upd0 hj) (fun j hj => upd0 hj)

section
variable (p n : Int) (U T Z C S : Nat → Int) (hU : isU8 8 U) (hT : isU8 512 T) (hZ : isU8 8 Z) (hC : isU8 512 C) (hS : isU8 64 S)
include hU hT hZ hC hS

/-! ### IsHopf, AxiomThatFails -/
def failV (p n : Int) (U T Z C S : Nat → Int) : SV := .tcons (.int .i64 (if hshB p n U T Z C S = true then (failN p n.toNat U T Z C S : Int) else 0)) (.tcons (.int .i64 (if hshB p n U T Z C S = true then 0 else 1)) .tnil)

end
end Go.Proofs.YtjanlnngeklhoabGreat

/- Functions of a Hopf algebra and a vector, on both sides, and the laws. -/
set_option linter.unusedVariables false
set_option linter.unusedSimpArgs false
set_option maxRecDepth 100000
set_option maxHeartbeats 1000000
namespace Go.Proofs.YtjanlnngeklhoabGreat
open M

section
variable (p n : Int) (U T Z C S : Nat → Int) (hU : isU8 8 U) (hT : isU8 512 T) (hZ : isU8 8 Z) (hC : isU8 512 C) (hS : isU8 64 S)
include hU hT hZ hC hS


/-! ### functions of a Hopf algebra and a vector -/
end

/-- a Hopf algebra and a vector for it -/
def hopOne (p n : Int) (U T Z C S v : Nat → Int) : Bool := hopB p n U T Z C S && entriesB p n v
section
variable (p n : Int) (U T Z C S : Nat → Int) (hU : isU8 8 U) (hT : isU8 512 T) (hZ : isU8 8 Z) (hC : isU8 512 C) (hS : isU8 64 S) (v : Nat → Int) (hv : isU8 8 v)
include hU hT hZ hC hS hv

/-! ### CounitOf -/
def hcounitV (p n : Int) (U T Z C S v : Nat → Int) : SV := .tcons (.int .i64 (if hopOne p n U T Z C S v = true then cnt p Z v else 0)) (.tcons (.int .i64 (if hopOne p n U T Z C S v = true then 0 else 1)) .tnil)
/-! ### CoproductOf -/
def hcoprodV (p n : Int) (U T Z C S v : Nat → Int) : SV := .tcons (.ints .u8 64 fun q => if hopOne p n U T Z C S v = true then leftT p C v q else 0) (.tcons (.int .i64 (if hopOne p n U T Z C S v = true then 0 else 1)) .tnil)
/-! ### AntipodeOf -/
def hantV (p n : Int) (U T Z C S v : Nat → Int) : SV := .tcons (.ints .u8 8 fun j => if hopOne p n U T Z C S v = true then linS S v 8 j % p else 0) (.tcons (.int .i64 (if hopOne p n U T Z C S v = true then 0 else 1)) .tnil)
end
end Go.Proofs.YtjanlnngeklhoabGreat

/- The order of the antipode, on both sides, and the law. -/
set_option linter.unusedVariables false
set_option linter.unusedSimpArgs false
set_option maxRecDepth 100000
set_option maxHeartbeats 1000000
namespace Go.Proofs.YtjanlnngeklhoabGreat
open M

/-- first G, then F -/
def thenF (p : Int) (F G : Nat → Int) : Nat → Int := fun q => linS F (partF G 8 (q / 8)) 8 (q % 8) % p
theorem applyToAll_s (p : Int) (F G : Nat → Int) (hp : 0 < p ∧ p < 256) (hF : isU8 64 F) (hG : isU8 64 G) : Spec Tryz.prog 63 [.int .i64 p, .ints .u8 64 F, .ints .u8 64 G] [] (Ret (.ints .u8 64 (thenF p F G))) := by
  refine Spec.ret rfl (Spec.of_vc tabOK tabEq Tryz.func63 rfl (by kernel_rfl) rfl rfl ?_)
  (repeat (first | refine And.intro (by omega) ?_ | refine And.intro ⟨by omega, by omega⟩ ?_))
  refine LoopVC.of (fun i : Nat => i ≤ 8) (fun i => [(0, .int .i64 p), (4, .ptr 0 [] 0 0), (5, .ptr 1 [] 0 0), (6, .ptr 2 [] 0 0), (9, .ints .u8 64 G), (10, .int .i64 i)])
    (fun i => [some (.ints .u8 64 F, 64), some (.ints .u8 64 fun q => if q / 8 < i then thenF p F G q else G q, 64), some (.ints .u8 64 fun _ => 0, 64)]) (fun i => 8 - i) 0 (by omega) ?_ ?_ ?_
  · exact And.intro rfl (And.intro rfl (And.intro rfl (And.intro rfl (And.intro (rowEq fun _ _ => rfl) (And.intro rfl trivial)))))
  · exact And.intro (And.intro (rowEq fun _ _ => rfl) rfl) (And.intro (And.intro (rowEq fun q _ => by simp) rfl) (And.intro (And.intro (rowEq fun _ _ => rfl) rfl) trivial))
  · intro i hi
    refine ifVC_split (fun h => ?_) (fun h => ?_)
    · have hlt := of_decide_eq_true h
      have hidx : (i : Int).toNat = i := by omega
      (repeat (first | refine And.intro (by omega) ?_ | refine And.intro ⟨by omega, by omega⟩ ?_))
      have hW : ∀ a, a < 8 → updR (fun _ => 0) 0 8 (fun q => G (q + (i : Int).toNat * 8)) (a + 0) = partF G 8 i a := fun a ha => by rw [hidx]; simp [updR, ha, partF]
      refine And.intro trivial (Spec.mono (apply_s p _ _ hp (fun q hq => hF _ (by omega)) (fun a ha => by rw [hW a ha]; exact hG _ (by omega))) ?_)
      rintro r m ⟨rfl, rfl⟩
      (repeat (first | refine And.intro (by omega) ?_ | refine And.intro ⟨by omega, by omega⟩ ?_))
      refine Exists.intro (i + 1) (And.intro (by omega) (And.intro (by omega) (And.intro (And.intro rfl (And.intro rfl (And.intro rfl (And.intro rfl (And.intro (rowEq fun _ _ => rfl) (And.intro (slotI (wrapS (by omega))) trivial)))))) ?_)))
      refine And.intro (And.intro (rowEq fun _ _ => rfl) rfl) (And.intro (And.intro (rowEq fun q hq => ?_) rfl) (And.intro (And.intro (rowEq fun _ _ => rfl) rfl) trivial))
      show updR _ ((i : Int).toNat * 8 + 0) 8 _ q = _
      unfold updR
      rw [hidx]
      by_cases h1 : i * 8 + 0 ≤ q ∧ q < i * 8 + 0 + 8
      · rw [if_pos h1, if_pos (by omega)]
        unfold thenF
        rw [show q / 8 = i by omega, show q - (i * 8 + 0) = q % 8 by omega]
        refine congrArg (· % p) (linS_congr 8 fun a ha => ?_)
        have := hW a ha
        rw [hidx] at this
        unfold updR at this
        rw [this]
        rfl
      · rw [if_neg h1]
        dsimp only
        by_cases h2 : q / 8 < i
        · rw [if_pos h2, if_pos (show q / 8 < i + 1 by omega)]
        · rw [if_neg h2, if_neg (show ¬ q / 8 < i + 1 by omega)]
    · have hge := of_decide_eq_false h
      obtain rfl : i = 8 := by omega
      (repeat (first | refine And.intro (by omega) ?_ | refine And.intro ⟨by omega, by omega⟩ ?_))
      refine rowEq fun q hq => ?_
      show updR _ 0 64 _ q = _
      simp [updR, hq]
      omega

/-- images for a size, zeros elsewhere -/
def zero64 (n : Nat) (G : Nat → Int) : Prop := ∀ a m, a < 8 → m < 8 → (n ≤ a ∨ n ≤ m) → partF G 8 a m = 0
/-! ### orders -/
/-- S taken k + 1 times -/
def powS (p : Int) (S : Nat → Int) : Nat → Nat → Int
  | 0 => S
  | k + 1 => thenF p S (powS p S k)
def sameAt (p : Int) (n : Nat) (S : Nat → Int) (k : Nat) : Bool := allEq 64 (powS p S k) (idF n)
/-- r is one more than the first place with f, among m, or 0 -/
def firstOk (f : Nat → Bool) (m r : Nat) : Prop := (r = 0 ∧ ∀ k, k < m → f k = false) ∨ (∃ k, r = k + 1 ∧ k < m ∧ f k = true ∧ ∀ k', k' < k → f k' = false)
def firstN (f : Nat → Bool) : Nat → Nat
  | 0 => 0
  | m + 1 => match firstN f m with | 0 => (match f m with | true => m + 1 | false => 0) | r + 1 => r + 1
def ordV (b : Bool) (r : Nat) : SV := .tcons (.int .i64 (if b = true then (r : Int) else 0)) (.tcons (.int .i64 (if b = true then (if r = 0 then 3 else 0) else 1)) .tnil)
def ordN (p : Int) (n : Nat) (S : Nat → Int) : Nat := firstN (sameAt p n S) 60

section
variable (p n : Int) (U T Z C S : Nat → Int) (hU : isU8 8 U) (hT : isU8 512 T) (hZ : isU8 8 Z) (hC : isU8 512 C) (hS : isU8 64 S)
include hU hT hZ hC hS

end
end Go.Proofs.YtjanlnngeklhoabGreat

/- An argument that is a Hopf table: its numbers. -/
set_option linter.unusedVariables false
set_option linter.unusedSimpArgs false
namespace Go.Proofs.YtjanlnngeklhoabGreat
variable {P : Program} {H : Type} {enc : TypeId × Value → H}

theorem open_hopG {w : World} {r : Reach} {b0 b : Nat} {sp : Nat → Bool} {hd : Bool} {t : TypeId} {f0 f1 f2 f3 f4 f5 f6 : Field} {d2 d3 d4 d5 d6 : Nat} (hs : P.underlying t = some (.struct #[f0, f1, f2, f3, f4, f5, f6])) (hsz : (P.info? t).map (·.size) = some 1106)
    (h0 : P.underlying f0.type = some (.int .i64)) (z0 : (P.info? f0.type).map (·.size) = some 1) (o0 : f0.offset = 0) (h1 : P.underlying f1.type = some (.int .i64)) (z1 : (P.info? f1.type).map (·.size) = some 1) (o1 : f1.offset = 1)
    (h2 : RowT P f2.type .u8 8 d2) (z2 : (P.info? f2.type).map (·.size) = some 8) (o2 : f2.offset = 2) (h3 : RowT P f3.type .u8 512 d3) (z3 : (P.info? f3.type).map (·.size) = some 512) (o3 : f3.offset = 10)
    (h4 : RowT P f4.type .u8 8 d4) (z4 : (P.info? f4.type).map (·.size) = some 8) (o4 : f4.offset = 522) (h5 : RowT P f5.type .u8 512 d5) (z5 : (P.info? f5.type).map (·.size) = some 512) (o5 : f5.offset = 530)
    (h6 : RowT P f6.type .u8 64 d6) (z6 : (P.info? f6.type).map (·.size) = some 64) (o6 : f6.offset = 1042)
    {v : Value} {x : DataW H} {ps : List MemPlace} (hval : Value.okWide P w r b0 t v) (ht : DataW.Trod enc P w b sp hd t v x ps) :
    ∃ (p n : Int) (U T Z C S : Nat → Int), (∀ μ, v = toVal μ (hopV p n U T Z C S)) ∧ isU8 8 U ∧ isU8 512 T ∧ isU8 8 Z ∧ isU8 512 C ∧ isU8 64 S ∧ ps = [] := by
  unfold Value.okWide at hval
  rw [hs] at hval
  obtain ⟨cs, rfl, _⟩ := hval
  obtain ⟨fuel, hf⟩ := ht
  obtain ⟨xs, n, _, hx, hl, hlen, hfs⟩ := DataW.trod_struct hs hf
  have hl' : cs.toList.length = 1106 := by rw [cellsOf_of hsz] at hl; exact hl
  match xs, hlen with
  | [y0, y1, y2, y3, y4, y5, y6], _ =>
    have g0 := hfs 0 f0 rfl
    have g1 := hfs 1 f1 rfl
    have g2 := hfs 2 f2 rfl
    have g3 := hfs 3 f3 rfl
    have g4 := hfs 4 f4 rfl
    have g5 := hfs 5 f5 rfl
    have g6 := hfs 6 f6 rfl
    rw [cellsOf_of z0, o0] at g0
    rw [cellsOf_of z1, o1] at g1
    rw [cellsOf_of z2, o2] at g2
    rw [cellsOf_of z3, o3] at g3
    rw [cellsOf_of z4, o4] at g4
    rw [cellsOf_of z5, o5] at g5
    rw [cellsOf_of z6, o6] at g6
    obtain ⟨p, e0, w0, q0⟩ := trod_int_cell h0 g0
    obtain ⟨m, e1, w1, q1⟩ := trod_int_cell h1 g1
    obtain ⟨l2, c2, q2⟩ := open_row h2 _ _ _ z2 g2
    obtain ⟨l3, c3, q3⟩ := open_row h3 _ _ _ z3 g3
    obtain ⟨l4, c4, q4⟩ := open_row h4 _ _ _ z4 g4
    obtain ⟨l5, c5, q5⟩ := open_row h5 _ _ _ z5 g5
    obtain ⟨l6, c6, q6⟩ := open_row h6 _ _ _ z6 g6
    obtain ⟨e2, w2⟩ := row_cells (μ := fun _ => 0) l2 c2
    obtain ⟨e3, w3⟩ := row_cells (μ := fun _ => 0) l3 c3
    obtain ⟨e4, w4⟩ := row_cells (μ := fun _ => 0) l4 c4
    obtain ⟨e5, w5⟩ := row_cells (μ := fun _ => 0) l5 c5
    obtain ⟨e6, w6⟩ := row_cells (μ := fun _ => 0) l6 c6
    refine ⟨p, m, _, _, _, _, _, fun μ => ?_, fun j hj => u8_bounds (w2 j hj), fun j hj => u8_bounds (w3 j hj), fun j hj => u8_bounds (w4 j hj), fun j hj => u8_bounds (w5 j hj), fun j hj => u8_bounds (w6 j hj), ?_⟩
    · have hcs : cs.toList = (cs.toList.drop 0).take 1 ++ ((cs.toList.drop 1).take 1 ++ ((cs.toList.drop 2).take 8 ++ ((cs.toList.drop 10).take 512 ++ ((cs.toList.drop 522).take 8 ++ ((cs.toList.drop 530).take 512 ++ (cs.toList.drop 1042).take 64))))) := by
        have a6 : (cs.toList.drop 1042).take 64 = cs.toList.drop 1042 := List.take_of_length_le (by simp [hl'])
        rw [a6]
        have s1 := List.take_append_drop 1 cs.toList
        have s2 := List.take_append_drop 1 (cs.toList.drop 1)
        have s3 := List.take_append_drop 8 (cs.toList.drop 2)
        have s4 := List.take_append_drop 512 (cs.toList.drop 10)
        have s5 := List.take_append_drop 8 (cs.toList.drop 522)
        have s6 := List.take_append_drop 512 (cs.toList.drop 530)
        rw [List.drop_drop] at s2 s3 s4 s5 s6
        conv => lhs; rw [← s1, ← s2, ← s3, ← s4, ← s5, ← s6]
        rfl
      show Value.agg cs = Value.agg _
      congr 1
      apply Array.ext'
      have e0' : (cs.toList.drop 0).take 1 = [.int .i64 p] := e0
      have e1' : (cs.toList.drop 1).take 1 = [.int .i64 m] := e1
      have e2' : (cs.toList.drop 2).take 8 = _ := e2
      have e3' : (cs.toList.drop 10).take 512 = _ := e3
      have e4' : (cs.toList.drop 522).take 8 = _ := e4
      have e5' : (cs.toList.drop 530).take 512 = _ := e5
      have e6' : (cs.toList.drop 1042).take 64 = _ := e6
      rw [hcs, e0', e1', e2', e3', e4', e5', e6']
      simp [hopV, flat, scal]
    · have : ps = [y0, y1, y2, y3, y4, y5, y6].flatMap (·.2) := congrArg Prod.snd hx
      rw [this]
      simp [q0, q1, q2, q3, q4, q5, q6]
end Go.Proofs.YtjanlnngeklhoabGreat

/- Modules of a Hopf algebra: their form, what vectors make of vectors, and what is asked of modules. -/
set_option linter.unusedVariables false
set_option linter.unusedSimpArgs false
set_option maxRecDepth 100000
set_option maxHeartbeats 1000000
namespace Go.Proofs.YtjanlnngeklhoabGreat
open M

/-- a module as plain data -/
def modV (d : Int) (A : Nat → Int) : SV := .pair (.int .i64 d) (.pair (.ints .u8 512 A) .unit)
theorem modR (d : Int) (A : Nat → Int) : SV.eqv (modV d A) (modV d A) := And.intro rfl (And.intro (rowEq fun _ _ => rfl) rfl)
theorem modE (d : Int) {A B : Nat → Int} (h : ∀ q, q < 512 → A q = B q) : SV.eqv (modV d A) (modV d B) := And.intro rfl (And.intro (rowEq h) rfl)

/-- what is asked of a module's maps: their form -/
structure ModP (p : Int) (n d : Nat) (A : Nat → Int) : Prop where
  d1 : 1 ≤ d
  d8 : d ≤ 8
  lt : ∀ i j m, i < 8 → j < 8 → m < 8 → 0 ≤ vecT A i j m ∧ vecT A i j m < p
  zero : ∀ i j m, i < 8 → j < 8 → m < 8 → (n ≤ i ∨ d ≤ j ∨ d ≤ m) → vecT A i j m = 0

theorem mod_of {p : Int} {n d : Nat} {A : Nat → Int} (hA : isU8 512 A) (hf : fieldB p d = true) (h : tabCB p n d A = true) : ModP p n d A := by
  obtain ⟨hp, hn1, hn8⟩ := field_bounds hf
  have row : ∀ i, i < 8 → linB p d d (partF A 64 i) = true ∧ (n ≤ i → ∀ q, q < 64 → A (q + i * 64) = 0) := fun i hi => by
    have := List.all_eq_true.1 h i (List.mem_range.2 hi)
    simp only [rowCB, Bool.and_eq_true, Bool.or_eq_true, decide_eq_true_eq] at this
    refine ⟨this.1, fun hni q hq => ?_⟩
    rcases this.2 with h | h
    · omega
    · exact allEq_get h hq
  have image : ∀ i j, i < 8 → j < 8 → entriesB p d (partF (partF A 64 i) 8 j) = true ∧ (d ≤ j → ∀ q, q < 8 → A (q + j * 8 + i * 64) = 0) := fun i j hi hj => by
    have := List.all_eq_true.1 (row i hi).1 j (List.mem_range.2 hj)
    simp only [imageB, Bool.and_eq_true, Bool.or_eq_true, decide_eq_true_eq] at this
    refine ⟨this.1, fun hnj q hq => ?_⟩
    rcases this.2 with h | h
    · omega
    · exact allEq_get h hq
  have eq : ∀ i j m, vecT A i j m = partF (partF A 64 i) 8 j m := fun i j m => by unfold vecT partF; rw [Nat.add_assoc]
  refine ⟨by omega, by omega, fun i j m hi hj hm => ⟨(hA _ (by omega)).1, ?_⟩, fun i j m hi hj hm hz => ?_⟩
  · rw [eq]; exact (entries_get (image i j hi hj).1 hm).1
  · rcases hz with hz | hz | hz
    · have := (row i hi).2 hz (m + j * 8) (by omega)
      unfold vecT; rw [← Nat.add_assoc]; exact this
    · have := (image i j hi hj).2 hz m hm
      unfold vecT; rw [← Nat.add_assoc]; exact this
    · rw [eq]; exact (entries_get (image i j hi hj).1 hm).2 (by omega)

/-! ### what a vector makes of a vector -/
theorem act_eq {p : Int} {n d : Nat} {A v w : Nat → Int} (hn : n ≤ 8) (hd : d ≤ 8) (hv : ∀ i, n ≤ i → i < 8 → v i = 0) (hw : ∀ i, d ≤ i → i < 8 → w i = 0) {m : Nat} (hm : m < 8) : timS p d A v w n m % p = prodF p A v w m := by
  unfold prodF
  rw [linS_cut 8 hd hw, timS_sum, linS_sum, sumN_mod]
  have e : sumN d (fun j => w j * leftT p A v (j * 8 + m)) % p = sumN d (fun j => w j * linS (rowT (flipF A) j) v n m) % p := by
    rw [← sumN_mod p w fun j => linS (rowT (flipF A) j) v n m]
    congr 1
    refine sumN_congr d fun j hj => ?_
    unfold leftT rightF
    rw [show (j * 8 + m) / 8 = j by omega, show (j * 8 + m) % 8 = m by omega, linS_cut 8 hn hv]
  rw [e]
  congr 1
  have l : sumN n (fun i => v i * linS (rowT A i) w d m) = sumN n (fun i => sumN d fun j => v i * (w j * vecT A i j m)) := sumN_congr n fun i hi => by
    rw [linS_sum, sumN_mul]
    refine sumN_congr d fun j hj => ?_
    rw [show rowT A i (j * 8 + m) = vecT A i j m by unfold rowT vecT; congr 1; omega]
  have r : sumN d (fun j => w j * linS (rowT (flipF A) j) v n m) = sumN d (fun j => sumN n fun i => v i * (w j * vecT A i j m)) := sumN_congr d fun j hj => by
    rw [linS_sum, sumN_mul]
    refine sumN_congr n fun i hi => ?_
    rw [show rowT (flipF A) j (i * 8 + m) = vecT A i j m by unfold rowT flipF vecT; congr 1; omega, ← Int.mul_assoc, Int.mul_comm (w j), Int.mul_assoc]
  rw [l, r, sumN_swap]
theorem act_unit {p : Int} {n d : Nat} {A v : Nat → Int} (hn : n ≤ 8) (hd : d ≤ 8) (hv : ∀ i, n ≤ i → i < 8 → v i = 0) {k m : Nat} (hk : k < d) (hm : m < 8) : timS p d A v (unitV k) n m % p = leftT p A v (k * 8 + m) := by
  rw [act_eq hn hd hv (fun i h1 h2 => by unfold unitV; rw [if_neg (by omega)]) hm, prodF_unit A v (by omega)]
  unfold leftT rightF
  rw [Int.emod_emod]

theorem left_zero {p : Int} {n d : Nat} {A : Nat → Int} (h : ModP p n d A) (v : Nat → Int) {q : Nat} (hq : q < 64) (hz : d ≤ q / 8 ∨ d ≤ q % 8) : leftT p A v q = 0 := by
  unfold leftT rightF
  rw [linS_sum, sumN_none 8 fun i hi => by
    have := h.zero i (q / 8) (q % 8) hi (by omega) (by omega) (by omega)
    rw [show rowT (flipF A) (q / 8) (i * 8 + q % 8) = vecT A i (q / 8) (q % 8) by unfold rowT flipF vecT; congr 1; omega, this]
    simp]
  simp
theorem then_zero {p : Int} {n d : Nat} {A : Nat → Int} (h : ModP p n d A) {i j q : Nat} (hi : i < 8) (hj : j < 8) (hq : q < 64) (hz : d ≤ q / 8 ∨ d ≤ q % 8) : thenF p (partF A 64 i) (partF A 64 j) q = 0 := by
  unfold thenF
  rw [linS_sum, sumN_none 8 fun a ha => by
    rcases hz with hz | hz
    · have := h.zero j (q / 8) a hj (by omega) ha (.inr (.inl hz))
      rw [show partF (partF A 64 j) 8 (q / 8) a = vecT A j (q / 8) a by unfold partF vecT; congr 1; omega, this]
      simp
    · have := h.zero i a (q % 8) hi ha (by omega) (.inr (.inr hz))
      rw [show partF A 64 i (a * 8 + q % 8) = vecT A i a (q % 8) by unfold partF vecT; congr 1; omega, this]
      simp]
  simp

/-! ### what is asked of the actions -/
def keepIJ (p : Int) (T A : Nat → Int) (i j : Nat) : Bool := allEq 64 (leftT p A (vecT T i j)) (thenF p (partF A 64 i) (partF A 64 j))
def keepB (p : Int) (n d : Nat) (U T A : Nat → Int) : Bool := all2 n (keepIJ p T A) && allEq 64 (leftT p A U) (idF d)
def mdlB (p n d : Int) (U T A : Nat → Int) : Bool := fieldB p d && (tabCB p n d A && keepB p n.toNat d.toNat U T A)
/-- the same, by the basis elements of the module -/
def rowIJ (p : Int) (T A : Nat → Int) (k i j : Nat) : Bool := allEq 8 (partF (leftT p A (vecT T i j)) 8 k) (partF (thenF p (partF A 64 i) (partF A 64 j)) 8 k)
def rowKB (p : Int) (n : Nat) (U T A : Nat → Int) (k : Nat) : Bool := allEq 8 (partF (leftT p A U) 8 k) (unitV k) && all2 n (rowIJ p T A k)

theorem allEq64_rows {d : Nat} {F G : Nat → Int} (hF : ∀ q, q < 64 → d ≤ q / 8 → F q = G q) (h : ∀ k, k < d → allEq 8 (partF F 8 k) (partF G 8 k) = true) : allEq 64 F G = true := by
  refine List.all_eq_true.2 fun q hq => ?_
  have hq := List.mem_range.1 hq
  rw [beq_iff_eq]
  rcases Nat.lt_or_ge (q / 8) d with h1 | h1
  · have := allEq_get (h _ h1) (show q % 8 < 8 by omega)
    unfold partF at this
    rw [show q % 8 + q / 8 * 8 = q by omega] at this
    exact this
  · exact hF q hq h1
theorem allEq64_row {F G : Nat → Int} (h : allEq 64 F G = true) {k : Nat} (hk : k < 8) : allEq 8 (partF F 8 k) (partF G 8 k) = true :=
  List.all_eq_true.2 fun q hq => by
    have hq := List.mem_range.1 hq
    rw [beq_iff_eq]
    exact allEq_get h (show q + k * 8 < 64 by omega)
theorem id_part {d k : Nat} (hk : k < d) {m : Nat} (hm : m < 8) : partF (idF d) 8 k m = unitV k m := by
  unfold partF idF
  rw [show (m + k * 8) / 8 = k by omega, show (m + k * 8) % 8 = m by omega, if_pos hk]

theorem keep_rows {p : Int} {n d : Nat} {U T A : Nat → Int} (hn : n ≤ 8) (h : ModP p n d A) : keepB p n d U T A = (List.range d).all (rowKB p n U T A) := by
  have hd := h.d8
  rw [Bool.eq_iff_iff]
  unfold keepB
  rw [Bool.and_eq_true, List.all_eq_true]
  constructor
  · rintro ⟨h1, h2⟩ k hk
    have hk := List.mem_range.1 hk
    unfold rowKB
    rw [Bool.and_eq_true]
    refine ⟨?_, all2_yes fun i j hi hj => allEq64_row (all2_get h1 hi hj) (by omega)⟩
    have := allEq64_row h2 (k := k) (by omega)
    rw [← this]
    exact allEq_congr (fun _ _ => rfl) fun m hm => (id_part hk hm).symm
  · intro hall
    have get : ∀ k, k < d → allEq 8 (partF (leftT p A U) 8 k) (unitV k) = true ∧ all2 n (rowIJ p T A k) = true := fun k hk => by
      have := hall k (List.mem_range.2 hk)
      unfold rowKB at this
      rwa [Bool.and_eq_true] at this
    refine ⟨all2_yes fun i j hi hj => ?_, ?_⟩
    · refine allEq64_rows (d := d) (fun q hq hz => ?_) fun k hk => all2_get (get k hk).2 hi hj
      rw [left_zero h _ hq (.inl hz), then_zero h (by omega) (by omega) hq (.inl hz)]
    · refine allEq64_rows (d := d) (fun q hq hz => ?_) fun k hk => ?_
      · rw [left_zero h _ hq (.inl hz)]
        unfold idF
        rw [if_neg (by omega)]
      · rw [← (get k hk).1]
        exact allEq_congr (fun _ _ => rfl) fun m hm => id_part hk hm
end Go.Proofs.YtjanlnngeklhoabGreat

/- Modules of a Hopf algebra: the checks of both sides. -/
set_option linter.unusedVariables false
set_option linter.unusedSimpArgs false
set_option maxRecDepth 100000
set_option maxHeartbeats 1000000
namespace Go.Proofs.YtjanlnngeklhoabGreat
open M

theorem toLinearA8_s (T : Nat → Int) : Spec Tryz.prog 19 [.ints .u8 512 T] [] (Ret (.ints .u8 512 T)) := by
  refine Spec.ret rfl (Spec.of_vc tabOK tabEq Tryz.func19 rfl (by kernel_rfl) rfl rfl ?_)
  refine LoopVC.of (fun i : Nat => i ≤ 8) (fun i => [(1, .ptr 0 [] 0 0), (2, .ptr 1 [] 0 0), (3, .ptr 2 [] 0 0), (4, .int .i64 i)])
    (fun i => [some (.ints .u8 512 T, 512), some (.ints .u8 512 fun _ => 0, 512), some (.ints .u8 512 fun q => if q < i * 64 then T q else 0, 512)]) (fun i => 8 - i) 0 (by omega) ?_ ?_ ?_
  · exact And.intro rfl (And.intro rfl (And.intro rfl (And.intro rfl trivial)))
  · exact And.intro (And.intro (rowEq fun _ _ => rfl) rfl) (And.intro (And.intro (rowEq fun _ _ => rfl) rfl) (And.intro (And.intro (rowEq fun _ _ => by simp) rfl) trivial))
  · intro i hi
    refine ifVC_split (fun h => ?_) (fun h => ?_)
    · have hlt := of_decide_eq_true h
      (repeat (first | refine And.intro (by omega) ?_ | refine And.intro ⟨by omega, by omega⟩ ?_))
      refine And.intro trivial (Spec.mono (toLinear_s _) ?_)
      rintro r m ⟨rfl, rfl⟩
      (repeat (first | refine And.intro (by omega) ?_ | refine And.intro ⟨by omega, by omega⟩ ?_))
      refine Exists.intro (i + 1) (And.intro (by omega) (And.intro (by omega) (And.intro (And.intro rfl (And.intro rfl (And.intro rfl (And.intro (slotI (wrapS (by omega))) trivial)))) ?_)))
      refine And.intro (And.intro (rowEq fun _ _ => rfl) rfl) (And.intro (And.intro (rowEq fun _ _ => rfl) rfl) (And.intro (And.intro (rowEq fun q hq => ?_) rfl) trivial))
      show updR _ ((i : Int).toNat * 64 + 0) 64 (fun j => T (j + ((i : Int).toNat * 64 + 0))) q = if q < (i + 1) * 64 then T q else 0
      unfold updR
      rw [Int.toNat_natCast]
      dsimp only
      by_cases h1 : i * 64 + 0 ≤ q ∧ q < i * 64 + 0 + 64
      · rw [if_pos h1, if_pos (by omega), show q - (i * 64 + 0) + (i * 64 + 0) = q by omega]
      · rw [if_neg h1]
        by_cases h2 : q < i * 64
        · rw [if_pos h2, if_pos (by omega)]
        · rw [if_neg h2, if_neg (by omega)]
    · have hge := of_decide_eq_false h
      obtain rfl : i = 8 := by omega
      (repeat (first | refine And.intro (by omega) ?_ | refine And.intro ⟨by omega, by omega⟩ ?_))
      refine rowEq fun q hq => ?_
      show updR _ 0 512 _ q = T q
      simp [updR, hq]
theorem toModule_s (d : Int) (A : Nat → Int) : Spec Tryz.prog 7 [modV d A] [] (Ret (modV d A)) := by
  refine Spec.ret rfl (Spec.of_vc tabOK tabEq Tryz.func7 rfl (by kernel_rfl) rfl rfl ?_)
  (repeat (first | refine And.intro (by omega) ?_ | refine And.intro ⟨by omega, by omega⟩ ?_))
  refine And.intro trivial (Spec.mono (toLinearA8_s _) ?_)
  rintro r m ⟨rfl, rfl⟩
  (repeat (first | refine And.intro (by omega) ?_ | refine And.intro ⟨by omega, by omega⟩ ?_))
  exact modE d fun j hj => upd0 hj

/-! ### what a vector makes of a vector -/
theorem l06Act_s (p : Int) (n d : Nat) (U T Z C S A a v : Nat → Int) (hp : 0 < p ∧ p < 256) (hn : n ≤ 8) (hd : d ≤ 8) (hA : isU8 512 A) (ha : isU8 8 a) (hv : isU8 8 v) :
    Spec Tryz.prog 57 [hopV p n U T Z C S, modV d A, .ints .u8 8 a, .ints .u8 8 v] [] (Ret (.ints .u8 8 fun j => timS p d A a v n j % p)) := by
  refine Spec.ret rfl (Spec.of_vc tabOK tabEq Tryz.func57 rfl (by kernel_rfl) rfl rfl ?_)
  (repeat (first | refine And.intro (by omega) ?_ | refine And.intro ⟨by omega, by omega⟩ ?_))
  refine LoopVC.of (fun i : Nat => i ≤ n) (fun i => [(4, .ptr 0 [] 0 0), (5, .ptr 1 [] 0 0), (6, .ptr 2 [] 0 0), (7, .ptr 3 [] 0 0), (8, .ptr 4 [] 0 0), (9, .ptr 5 [] 0 0), (10, .int .i64 i)])
    (fun i => [some (hopV p n U T Z C S, 1106), some (modV d A, 513), some (.ints .u8 8 a, 8), some (.ints .u8 8 v, 8), some (.ints .u8 8 fun _ => 0, 8), some (.ints .u8 8 fun j => timS p d A a v i j % p, 8)]) (fun i => n - i) 0 (by omega) ?_ ?_ ?_
  · exact (And.intro rfl (And.intro rfl (And.intro rfl (And.intro rfl (And.intro rfl (And.intro rfl (And.intro rfl (trivial))))))))
  · exact And.intro (And.intro (hopR p n U T Z C S) rfl) (And.intro (And.intro (modR d A) rfl) (And.intro (And.intro (rowEq fun _ _ => rfl) rfl) (And.intro (And.intro (rowEq fun _ _ => rfl) rfl) (And.intro (And.intro (rowEq fun _ _ => rfl) rfl) (And.intro (And.intro (rowEq fun j hj => by show updR _ 0 8 _ j = _; simp [updR, hj, timS]) rfl) trivial)))))
  · intro i hi
    refine ifVC_split (fun h => ?_) (fun h => ?_)
    · have hlt := of_decide_eq_true h
      (repeat (first | refine And.intro (by omega) ?_ | refine And.intro ⟨by omega, by omega⟩ ?_))
      have hai := ha i (by omega)
      have hidx : (i : Int).toNat * 1 + 0 = i := by omega
      refine ifVC_split (fun hz => ?_) (fun hz => ?_)
      · refine Exists.intro 18 (And.intro (by kernel_rfl) ?_)
        (repeat (first | refine And.intro (by omega) ?_ | refine And.intro ⟨by omega, by omega⟩ ?_))
        refine Exists.intro (.ints .u8 8 fun j => linS (rowT A i) v d j % p) (And.intro (And.intro rfl (And.intro rfl ?_)) ?_)
        · refine Spec.mono (l01Apply_s p d _ _ hp hd (fun j hj => hA _ (by omega)) (fun j hj => hv _ (by omega))) ?_
          rintro r m ⟨rfl, _⟩
          rw [Int.toNat_natCast]
          rfl
        (repeat (first | refine And.intro (by omega) ?_ | refine And.intro ⟨by omega, by omega⟩ ?_))
        refine Exists.intro (.ints .u8 8 fun j => timS p d A a v (i + 1) j % p) (And.intro (And.intro rfl (And.intro rfl ?_)) ?_)
        · refine Spec.mono (l01Add_s p _ _ _ hp (by rw [hidx, wrapI (by omega)]; omega) (fun j _ => modB hp) (fun j _ => modB hp)) ?_
          rintro r m ⟨rfl, _⟩
          refine congrArg (SV.ints .u8 8) (funext fun j => ?_)
          show (timS p d A a v i (j + 0) % p + IntKind.i64.wrap (a ((i : Int).toNat * 1 + 0)) * (linS (rowT A i) v d j % p)) % p = (timS p d A a v i j + a i * (linS (rowT A i) v d j % p)) % p
          rw [hidx, wrapI (by omega), Int.emod_add_emod, Nat.add_zero]
        (repeat (first | refine And.intro (by omega) ?_ | refine And.intro ⟨by omega, by omega⟩ ?_))
        refine Exists.intro (i + 1) (And.intro (by omega) (And.intro (by omega) (And.intro (And.intro rfl (And.intro rfl (And.intro rfl (And.intro rfl (And.intro rfl (And.intro rfl (And.intro (slotI (wrapS (by omega))) trivial))))))) ?_)))
        refine And.intro (And.intro (hopR p n U T Z C S) rfl) (And.intro (And.intro (modR d A) rfl) (And.intro (And.intro (rowEq fun _ _ => rfl) rfl) (And.intro (And.intro (rowEq fun _ _ => rfl) rfl) (And.intro (And.intro (rowEq fun _ _ => rfl) rfl) (And.intro (And.intro (rowEq fun j hj => ?_) rfl) trivial)))))
        show updR _ 0 8 _ j = _
        simp [updR, hj]
      · have hz : a i = 0 := by
          have hz : a ((i : Int).toNat * 1 + 0) = 0 := by simpa using hz
          rw [hidx] at hz; exact hz
        refine Exists.intro (i + 1) (And.intro (by omega) (And.intro (by omega) (And.intro (And.intro rfl (And.intro rfl (And.intro rfl (And.intro rfl (And.intro rfl (And.intro rfl (And.intro (slotI (wrapS (by omega))) trivial))))))) ?_)))
        refine And.intro (And.intro (hopR p n U T Z C S) rfl) (And.intro (And.intro (modR d A) rfl) (And.intro (And.intro (rowEq fun _ _ => rfl) rfl) (And.intro (And.intro (rowEq fun _ _ => rfl) rfl) (And.intro (And.intro (rowEq fun _ _ => rfl) rfl) (And.intro (And.intro (rowEq fun j hj => ?_) rfl) trivial)))))
        show timS p d A a v i j % p = (timS p d A a v i j + a i * (linS (rowT A i) v d j % p)) % p
        rw [hz]; simp
    · have hge := of_decide_eq_false h
      obtain rfl : i = n := by omega
      (repeat (first | refine And.intro (by omega) ?_ | refine And.intro ⟨by omega, by omega⟩ ?_))
      refine rowEq fun j hj => ?_
      show updR _ 0 8 _ j = _
      simp [updR, hj]

/-! ### the program's check of the actions -/
theorem keepsActions_s (p : Int) (n d : Nat) (U T Z C S A : Nat → Int) (hV : HV p n U T Z C S) (hA : isU8 512 A) (hd : d ≤ 8) :
    Spec Tryz.prog 38 [hopV p n U T Z C S, modV d A] [] (Ret (.bool (keepB p n d U T A))) := by
  have hn := hV.a.hn
  have hp := hV.a.hp
  refine Spec.ret rfl (Spec.of_vc tabOK tabEq Tryz.func38 rfl (by kernel_rfl) rfl rfl ?_)
  refine LoopVC.of (fun i : Nat => i ≤ n ∧ ∀ i' j, i' < i → j < n → keepIJ p T A i' j = true) (fun i => [(2, .ptr 0 [] 0 0), (3, .ptr 1 [] 0 0), (9, .int .i64 n), (10, .int .i64 i)]) (fun _ => [some (hopV p n U T Z C S, 1106), some (modV d A, 513)]) (fun i => n - i) 0 ⟨by omega, fun i' j h => by omega⟩ ?_ ?_ ?_
  · exact (And.intro rfl (And.intro rfl (And.intro rfl (And.intro rfl (trivial)))))
  · exact And.intro (And.intro (hopR p n U T Z C S) rfl) (And.intro (And.intro (modR d A) rfl) trivial)
  · rintro i ⟨hi, hall⟩
    refine ifVC_split (fun h => ?_) (fun h => ?_)
    · have hlt := of_decide_eq_true h
      have hidx : (i : Int).toNat = i := by omega
      refine LoopVC.of (fun j : Nat => j ≤ n ∧ ∀ j', j' < j → keepIJ p T A i j' = true) (fun j => [(2, .ptr 0 [] 0 0), (3, .ptr 1 [] 0 0), (5, .int .i64 i), (9, .int .i64 n), (10, .int .i64 i), (14, .int .i64 n), (15, .int .i64 j)]) (fun _ => [some (hopV p n U T Z C S, 1106), some (modV d A, 513)]) (fun j => n - j) 0 ⟨by omega, fun j' h => by omega⟩ ?_ ?_ ?_
      · exact (And.intro rfl (And.intro rfl (And.intro rfl (And.intro rfl (And.intro rfl (And.intro rfl (And.intro rfl (trivial))))))))
      · exact And.intro (And.intro (hopR p n U T Z C S) rfl) (And.intro (And.intro (modR d A) rfl) trivial)
      · rintro j ⟨hj, hall'⟩
        refine ifVC_split (fun h' => ?_) (fun h' => ?_)
        · have hlt' := of_decide_eq_true h'
          have hjdx : (j : Int).toNat = j := by omega
          refine Exists.intro 12 (And.intro (by kernel_rfl) ?_)
          (repeat (first | refine And.intro (by omega) ?_ | refine And.intro ⟨by omega, by omega⟩ ?_))
          refine Exists.intro (.ints .u8 64 (leftT p A (vecT T i j))) (And.intro (And.intro rfl (And.intro rfl ?_)) ?_)
          · rw [vec_is T i j hidx hjdx]
            exact Spec.mono (sumOfMaps_s p _ _ hp (fun q hq => hA _ (by omega)) (vecT_u8 hV.hT (by omega) (by omega))) fun r m h => h.1
          (repeat (first | refine And.intro (by omega) ?_ | refine And.intro ⟨by omega, by omega⟩ ?_))
          refine Exists.intro 12 (And.intro (by kernel_rfl) ?_)
          (repeat (first | refine And.intro (by omega) ?_ | refine And.intro ⟨by omega, by omega⟩ ?_))
          refine Exists.intro (.ints .u8 64 (thenF p (partF A 64 i) (partF A 64 j))) (And.intro (And.intro rfl (And.intro rfl ?_)) ?_)
          · rw [row_is A i hidx, row_is A j hjdx]
            exact Spec.mono (applyToAll_s p _ _ hp (part_u8 hA (by omega)) (part_u8 hA (by omega))) fun r m h => h.1
          have he : allEq 64 (fun q => updR (fun _ => 0) 0 64 (leftT p A (vecT T i j)) (q + 0)) (thenF p (partF A 64 i) (partF A 64 j)) = keepIJ p T A i j := allEq_congr (fun q hq => by simp [updR, hq]) fun _ _ => rfl
          refine ifVC_split (fun hc => ?_) (fun hc => ?_)
          · have hc : keepIJ p T A i j = false := by rw [← he]; simpa using hc
            exact boolEq (by unfold keepB; rw [all2_no (i := i) (j := j) (by omega) (by omega) hc]; rfl)
          · have hc : keepIJ p T A i j = true := by rw [← he]; simpa using hc
            refine Exists.intro (j + 1) (And.intro ⟨by omega, fun j' hj' => ?_⟩ (And.intro (by omega) (And.intro (And.intro rfl (And.intro rfl (And.intro rfl (And.intro rfl (And.intro rfl (And.intro rfl (And.intro (slotI (wrapS (by omega))) trivial))))))) (And.intro (And.intro (hopR p n U T Z C S) rfl) (And.intro (And.intro (modR d A) rfl) trivial)))))
            by_cases hjj : j' = j
            · subst hjj; exact hc
            · exact hall' j' (by omega)
        · have hge := of_decide_eq_false h'
          obtain rfl : j = n := by omega
          refine Exists.intro (i + 1) (And.intro ⟨by omega, fun i' j' hi' hj' => ?_⟩ (And.intro (by omega) (And.intro (And.intro rfl (And.intro rfl (And.intro rfl (And.intro (slotI (wrapS (by omega))) trivial)))) (And.intro (And.intro (hopR p j U T Z C S) rfl) (And.intro (And.intro (modR d A) rfl) trivial)))))
          by_cases hii : i' = i
          · subst hii; exact hall' j' hj'
          · exact hall i' j' (by omega) hj'
    · have hge := of_decide_eq_false h
      obtain rfl : i = n := by omega
      refine Exists.intro 11 (And.intro (by kernel_rfl) ?_)
      (repeat (first | refine And.intro (by omega) ?_ | refine And.intro ⟨by omega, by omega⟩ ?_))
      refine Exists.intro (.ints .u8 64 (leftT p A U)) (And.intro (And.intro rfl (And.intro rfl (Spec.mono (sumOfMaps_s p _ _ hp (fun q hq => hA _ (by omega)) (fun q hq => hV.hU _ (by omega))) fun r m h => h.1))) ?_)
      (repeat (first | refine And.intro (by omega) ?_ | refine And.intro ⟨by omega, by omega⟩ ?_))
      refine Exists.intro (.ints .u8 64 (idF d)) (And.intro (And.intro rfl (And.intro rfl (Spec.mono (identity_s d hd) fun r m h => h.1))) ?_)
      refine boolEq ?_
      unfold keepB
      rw [all2_yes hall, Bool.true_and]
end Go.Proofs.YtjanlnngeklhoabGreat

/- Modules of a Hopf algebra: what the model asks of them, and lists of them on both sides. -/
set_option linter.unusedVariables false
set_option linter.unusedSimpArgs false
set_option maxRecDepth 100000
set_option maxHeartbeats 1000000
namespace Go.Proofs.YtjanlnngeklhoabGreat
open M

theorem tabCB_no {p c n : Int} {T : Nat → Int} {i : Nat} (hi : i < 8) (h : rowCB p c n T i = false) : tabCB p c n T = false := by
  unfold tabCB; rw [all8_no (i := i) hi h]
theorem rows_no {p : Int} {n d : Nat} {U T A : Nat → Int} (hn : n ≤ 8) (h : ModP p n d A) {k : Nat} (hk : k < d) (hb : rowKB p n U T A k = false) : keepB p n d U T A = false := by
  rw [keep_rows hn h]
  cases hc : (List.range d).all (rowKB p n U T A) with
  | false => rfl
  | true => have := List.all_eq_true.1 hc k (List.mem_range.2 hk); rw [hb] at this; cases this

theorem l06Holds_s (p : Int) (n : Nat) (d : Int) (U T Z C S A : Nat → Int) (hV : HV p n U T Z C S) (hpr : primeB p = true) (hA : isU8 512 A) :
    Spec Tryz.prog 33 [hopV p n U T Z C S, modV d A] [] (Ret (.bool (mdlB p n d U T A))) := by
  have hn := hV.a.hn
  have hp := hV.a.hp
  refine Spec.ret rfl (Spec.of_vc tabOK tabEq Tryz.func33 rfl (by kernel_rfl) rfl rfl ?_)
  refine And.intro trivial (Spec.mono (l01In_s d 1 8) ?_)
  rintro r m ⟨rfl, rfl⟩
  refine ifVC_split (fun hd => ?_) (fun hd => ?_)
  · have hd : (decide (1 ≤ d) && decide (d ≤ 8)) = false := by simpa only [Bool.not_eq_true'] using hd
    exact boolEq (by unfold mdlB fieldB; rw [hpr, hd]; rfl)
  have hd : (decide (1 ≤ d) && decide (d ≤ 8)) = true := by simpa only [Bool.not_eq_false'] using hd
  have hf : fieldB p d = true := by unfold fieldB; rw [hpr, hd]; rfl
  simp only [Bool.and_eq_true, decide_eq_true_eq] at hd
  obtain ⟨d, rfl⟩ : ∃ k : Nat, d = k := ⟨d.toNat, by omega⟩
  have hd8 : d ≤ 8 := by omega
  refine LoopVC.of (fun i : Nat => i ≤ 8 ∧ ∀ j, j < i → rowCB p n d A j = true) (fun i => [(2, .ptr 0 [] 0 0), (3, .ptr 1 [] 0 0), (5, .int .i64 i)]) (fun _ => [some (hopV p n U T Z C S, 1106), some (modV d A, 513)]) (fun i => 8 - i) 0 ⟨by omega, fun j h => by omega⟩ ?_ ?_ ?_
  · exact (And.intro rfl (And.intro rfl (And.intro rfl (trivial))))
  · exact And.intro (And.intro (hopR p n U T Z C S) rfl) (And.intro (And.intro (modR d A) rfl) trivial)
  · rintro i ⟨hi, hall⟩
    refine ifVC_split (fun h => ?_) (fun h => ?_)
    · have hlt := of_decide_eq_true h
      have hidx : (i : Int).toNat = i := by omega
      have step : rowCB p n d A i = true → ∀ (s : Slots) (m : Mem), eqvO (lk s 2) (.ptr 0 [] 0 0) → eqvO (lk s 3) (.ptr 1 [] 0 0) → eqvO (lk s 5) (.int .i64 (IntKind.i64.wrap ((i : Int) + 1))) → memCut m [some (hopV p n U T Z C S, 1106), some (modV d A, 513)] →
          ∃ x' : Nat, (x' ≤ 8 ∧ ∀ j, j < x' → rowCB p n d A j = true) ∧ 8 - x' < 8 - i ∧ subL [(2, .ptr 0 [] 0 0), (3, .ptr 1 [] 0 0), (5, .int .i64 x')] s ∧ memCut m [some (hopV p n U T Z C S, 1106), some (modV d A, 513)] := fun he s m h2 h3 h5 hm =>
        ⟨i + 1, ⟨by omega, fun j hj => by
          by_cases hji : j = i
          · subst hji; exact he
          · exact hall j (by omega)⟩, by omega, ⟨h2, h3, by rw [wrapS (by omega)] at h5; exact h5, trivial⟩, hm⟩
      refine Exists.intro 23 (And.intro (by kernel_rfl) ?_)
      (repeat (first | refine And.intro (by omega) ?_ | refine And.intro ⟨by omega, by omega⟩ ?_))
      refine Exists.intro (.bool (linB p d d (partF A 64 i))) (And.intro (And.intro rfl (And.intro rfl ?_)) ?_)
      · rw [row_is A i hidx]
        exact Spec.mono (l01Linear_s p d _ (part_u8 hA (by omega))) fun r m h => h.1
      refine ifVC_split (fun hv => ?_) (fun hv => ?_)
      · have hv : linB p d d (partF A 64 i) = false := by simpa using hv
        exact boolEq (by unfold mdlB; rw [tabCB_no (i := i) (by omega) (by unfold rowCB; rw [hv]; rfl)]; simp)
      · have hv : linB p d d (partF A 64 i) = true := by simpa using hv
        refine ifVC_split (fun hb => ?_) (fun hb => ?_)
        · have hb := of_decide_eq_true hb
          (repeat (first | refine And.intro (by omega) ?_ | refine And.intro ⟨by omega, by omega⟩ ?_))
          have hq : allEq 64 (fun q => A (q + ((i : Int).toNat * 64 + 0))) (fun _ => 0) = allEq 64 (partF A 64 i) (fun _ => 0) := by rw [row_is A i hidx]
          refine ifVC_split (fun hc => ?_) (fun hc => ?_)
          · have hc : allEq 64 (partF A 64 i) (fun _ => 0) = false := by rw [← hq]; simpa using hc
            exact boolEq (by unfold mdlB; rw [tabCB_no (i := i) (by omega) (by unfold rowCB; rw [hv, hc]; simp; omega)]; simp)
          · have hc : allEq 64 (partF A 64 i) (fun _ => 0) = true := by rw [← hq]; simpa using hc
            exact step (by unfold rowCB; rw [hv, hc]; simp) _ _ rfl rfl rfl (And.intro (And.intro (hopR p n U T Z C S) rfl) (And.intro (And.intro (modR d A) rfl) trivial))
        · have hb := of_decide_eq_false hb
          exact step (by unfold rowCB; rw [hv]; simp; left; omega) _ _ rfl rfl rfl (And.intro (And.intro (hopR p n U T Z C S) rfl) (And.intro (And.intro (modR d A) rfl) trivial))
    · have hge := of_decide_eq_false h
      obtain rfl : i = 8 := by omega
      have htab : tabCB p n d A = true := List.all_eq_true.2 fun j hj => hall j (List.mem_range.1 hj)
      have hM : ModP p n d A := mod_of hA hf htab
      have hB : mdlB p n d U T A = keepB p n d U T A := by unfold mdlB; rw [hf, htab]; simp
      have huz : ∀ i, n ≤ i → i < 8 → U i = 0 := fun i h1 h2 => hV.a.uzero i h2 h1
      have hvz : ∀ i j, i < 8 → j < 8 → ∀ k, n ≤ k → k < 8 → vecT T i j k = 0 := fun i j hi hj k h1 h2 => hV.a.zero i j k hi hj h2 (.inr (.inr h1))
      refine LoopVC.of (fun k : Nat => k ≤ d ∧ ∀ k', k' < k → rowKB p n U T A k' = true) (fun k => [(2, .ptr 0 [] 0 0), (3, .ptr 1 [] 0 0), (6, .int .i64 k)]) (fun _ => [some (hopV p n U T Z C S, 1106), some (modV d A, 513)]) (fun k => d - k) 0 ⟨by omega, fun j h => by omega⟩ ?_ ?_ ?_
      · exact (And.intro rfl (And.intro rfl (And.intro rfl (trivial))))
      · exact And.intro (And.intro (hopR p n U T Z C S) rfl) (And.intro (And.intro (modR d A) rfl) trivial)
      · rintro k ⟨hk, hrows⟩
        refine ifVC_split (fun h => ?_) (fun h => ?_)
        · have hlt := of_decide_eq_true h
          have hkdx : (k : Int).toNat = k := by omega
          refine And.intro trivial (Spec.mono (l01Basis_s k (by omega)) ?_)
          rintro r m ⟨rfl, rfl⟩
          (repeat (first | refine And.intro (by omega) ?_ | refine And.intro ⟨by omega, by omega⟩ ?_))
          refine Exists.intro 7 (And.intro (by kernel_rfl) ?_)
          (repeat (first | refine And.intro (by omega) ?_ | refine And.intro ⟨by omega, by omega⟩ ?_))
          have hunit : ∀ j, j < 8 → updR (fun _ => 0) 0 8 (unitV (k : Int).toNat) (j + 0) = unitV k j := fun j hj => by rw [hkdx]; simp [updR, hj]
          have hu8 : isU8 8 (fun j => updR (fun _ => 0) 0 8 (unitV (k : Int).toNat) (j + 0)) := fun j hj => by have := unitV_u8 k 8 j hj; rw [← hunit j hj] at this; exact this
          have hact : ∀ (v : Nat → Int), (∀ i, n ≤ i → i < 8 → v i = 0) → ∀ j, j < 8 → timS p d A v (fun j => updR (fun _ => 0) 0 8 (unitV (k : Int).toNat) (j + 0)) n j % p = partF (leftT p A v) 8 k j := fun v hz j hj => by
            rw [act_eq hn hd8 hz (fun i h1 h2 => by rw [hunit i h2]; unfold unitV; rw [if_neg (by omega)]) hj, prodF_congr (v' := v) (w' := unitV k) (fun _ _ => rfl) hunit, prodF_unit A v (by omega)]
            unfold partF
            rw [Nat.add_comm j (k * 8)]
            unfold leftT rightF
            rw [Int.emod_emod]
          refine Exists.intro (.ints .u8 8 fun j => timS p d A U (fun j => updR (fun _ => 0) 0 8 (unitV (k : Int).toNat) (j + 0)) n j % p) (And.intro (And.intro rfl (And.intro rfl (Spec.mono (l06Act_s p n d U T Z C S A _ _ hp hn hd8 hA (fun j hj => hV.hU _ (by omega)) hu8) fun r m h => h.1))) ?_)
          (repeat (first | refine And.intro (by omega) ?_ | refine And.intro ⟨by omega, by omega⟩ ?_))
          have e1 : allEq 8 (fun j => timS p d A U (fun j => updR (fun _ => 0) 0 8 (unitV (k : Int).toNat) (j + 0)) n j % p) (fun j => updR (fun _ => 0) 0 8 (unitV (k : Int).toNat) (j + 0)) = allEq 8 (partF (leftT p A U) 8 k) (unitV k) := allEq_congr (hact U huz) hunit
          refine ifVC_split (fun hc => ?_) (fun hc => ?_)
          · have hc : allEq 8 (partF (leftT p A U) 8 k) (unitV k) = false := by rw [← e1]; simpa using hc
            exact boolEq (by rw [hB, rows_no hn hM (k := k) (by omega) (by unfold rowKB; rw [hc]; rfl)])
          have hcu : allEq 8 (partF (leftT p A U) 8 k) (unitV k) = true := by rw [← e1]; simpa using hc
          refine LoopVC.of (fun i : Nat => i ≤ n ∧ ∀ i' j, i' < i → j < n → rowIJ p T A k i' j = true) (fun i => [(2, .ptr 0 [] 0 0), (3, .ptr 1 [] 0 0), (6, .int .i64 k), (7, .ptr 2 [] 0 0), (8, .int .i64 i)]) (fun _ => [some (hopV p n U T Z C S, 1106), some (modV d A, 513), some (.ints .u8 8 (unitV k), 8)]) (fun i => n - i) 0 ⟨by omega, fun i' j h => by omega⟩ ?_ ?_ ?_
          · exact (And.intro rfl (And.intro rfl (And.intro rfl (And.intro rfl (And.intro rfl (trivial))))))
          · exact And.intro (And.intro (hopR p n U T Z C S) rfl) (And.intro (And.intro (modR d A) rfl) (And.intro (And.intro (rowEq fun j hj => hunit j hj) rfl) trivial))
          · rintro i ⟨hi, hall1⟩
            refine ifVC_split (fun h => ?_) (fun h => ?_)
            · have hlt1 := of_decide_eq_true h
              have hidx : (i : Int).toNat = i := by omega
              refine LoopVC.of (fun j : Nat => j ≤ n ∧ ∀ j', j' < j → rowIJ p T A k i j' = true) (fun j => [(2, .ptr 0 [] 0 0), (3, .ptr 1 [] 0 0), (6, .int .i64 k), (7, .ptr 2 [] 0 0), (8, .int .i64 i), (9, .int .i64 j)]) (fun _ => [some (hopV p n U T Z C S, 1106), some (modV d A, 513), some (.ints .u8 8 (unitV k), 8)]) (fun j => n - j) 0 ⟨by omega, fun j' h => by omega⟩ ?_ ?_ ?_
              · exact (And.intro rfl (And.intro rfl (And.intro rfl (And.intro rfl (And.intro rfl (And.intro rfl (trivial)))))))
              · exact And.intro (And.intro (hopR p n U T Z C S) rfl) (And.intro (And.intro (modR d A) rfl) (And.intro (And.intro (rowEq fun _ _ => rfl) rfl) trivial))
              · rintro j ⟨hj, hall2⟩
                refine ifVC_split (fun h => ?_) (fun h => ?_)
                · have hlt2 := of_decide_eq_true h
                  have hjdx : (j : Int).toNat = j := by omega
                  refine Exists.intro 25 (And.intro (by kernel_rfl) ?_)
                  (repeat (first | refine And.intro (by omega) ?_ | refine And.intro ⟨by omega, by omega⟩ ?_))
                  refine Exists.intro (.ints .u8 8 fun y => timS p d A (vecT T i j) (unitV k) n y % p) (And.intro (And.intro rfl (And.intro rfl ?_)) ?_)
                  · rw [vec_is T i j hidx hjdx]
                    exact Spec.mono (l06Act_s p n d U T Z C S A _ _ hp hn hd8 hA (vecT_u8 hV.hT (by omega) (by omega)) (unitV_u8 k 8)) fun r m h => h.1
                  (repeat (first | refine And.intro (by omega) ?_ | refine And.intro ⟨by omega, by omega⟩ ?_))
                  refine Exists.intro (.ints .u8 8 fun y => linS (partF A 64 i) (vecT A j k) d y % p) (And.intro (And.intro rfl (And.intro rfl ?_)) ?_)
                  · rw [row_is A i hidx, vec_is A j k hjdx hkdx]
                    exact Spec.mono (l01Apply_s p d _ _ hp hd8 (part_u8 hA (by omega)) (vecT_u8 hA (by omega) (by omega))) fun r m h => h.1
                  have e2 : allEq 8 (fun y => timS p d A (vecT T i j) (unitV k) n y % p) (fun y => linS (partF A 64 i) (vecT A j k) d y % p) = rowIJ p T A k i j := by
                    refine allEq_congr (fun y hy => ?_) fun y hy => ?_
                    · rw [act_unit hn hd8 (hvz i j (by omega) (by omega)) (by omega) hy]
                      unfold partF
                      rw [Nat.add_comm]
                    · unfold partF thenF
                      rw [show (y + k * 8) / 8 = k by omega, show (y + k * 8) % 8 = y by omega, ← linS_cut (n := d) 8 hd8 fun a h1 h2 => hM.zero j k a (by omega) (by omega) h2 (.inr (.inr h1))]
                      refine congrArg (· % p) (linS_congr 8 fun a ha => ?_)
                      rw [show vecT A j k a = partF (fun j_1 => A (j_1 + j * 64)) 8 k a by unfold vecT partF; dsimp only; rw [Nat.add_assoc]]
                  refine ifVC_split (fun hc2 => ?_) (fun hc2 => ?_)
                  · have hc2 : rowIJ p T A k i j = false := by rw [← e2]; simpa using hc2
                    exact boolEq (by rw [hB, rows_no hn hM (k := k) (by omega) (by unfold rowKB; rw [all2_no (i := i) (j := j) (by omega) (by omega) hc2]; simp)])
                  · have hc2 : rowIJ p T A k i j = true := by rw [← e2]; simpa using hc2
                    refine Exists.intro (j + 1) (And.intro ⟨by omega, fun j' hj' => ?_⟩ (And.intro (by omega) (And.intro (And.intro rfl (And.intro rfl (And.intro rfl (And.intro rfl (And.intro rfl (And.intro (slotI (wrapS (by omega))) trivial)))))) (And.intro (And.intro (hopR p n U T Z C S) rfl) (And.intro (And.intro (modR d A) rfl) (And.intro (And.intro (rowEq fun _ _ => rfl) rfl) trivial))))))
                    by_cases hjj : j' = j
                    · subst hjj; exact hc2
                    · exact hall2 j' (by omega)
                · have hge := of_decide_eq_false h
                  obtain rfl : j = n := by omega
                  refine Exists.intro (i + 1) (And.intro ⟨by omega, fun i' j' hi' hj' => ?_⟩ (And.intro (by omega) (And.intro (And.intro rfl (And.intro rfl (And.intro rfl (And.intro rfl (And.intro (slotI (wrapS (by omega))) trivial))))) (And.intro (And.intro (hopR p j U T Z C S) rfl) (And.intro (And.intro (modR d A) rfl) (And.intro (And.intro (rowEq fun _ _ => rfl) rfl) trivial))))))
                  by_cases hii : i' = i
                  · subst hii; exact hall2 j' hj'
                  · exact hall1 i' j' (by omega) hj'
            · have hge := of_decide_eq_false h
              obtain rfl : i = n := by omega
              refine Exists.intro (k + 1) (And.intro ⟨by omega, fun k' hk' => ?_⟩ (And.intro (by omega) (And.intro (And.intro rfl (And.intro rfl (And.intro (slotI (wrapS (by omega))) trivial))) (And.intro (And.intro (hopR p i U T Z C S) rfl) (And.intro (And.intro (modR d A) rfl) trivial)))))
              by_cases hkk : k' = k
              · subst hkk
                unfold rowKB
                rw [hcu, all2_yes hall1]
                rfl
              · exact hrows k' (by omega)
        · have hge := of_decide_eq_false h
          obtain rfl : k = d := by omega
          refine boolEq ?_
          rw [hB, keep_rows hn hM]
          symm
          exact List.all_eq_true.2 fun k' hk' => hrows k' (List.mem_range.1 hk')

section
variable (p n : Int) (U T Z C S : Nat → Int) (hU : isU8 8 U) (hT : isU8 512 T) (hZ : isU8 8 Z) (hC : isU8 512 C) (hS : isU8 64 S)
include hU hT hZ hC hS

/-- a Hopf algebra and a module of it -/
def hmB (p n : Int) (U T Z C S : Nat → Int) (d : Int) (A : Nat → Int) : Bool := hopB p n U T Z C S && mdlB p n d U T A

theorem hop_valid (h : hopB p n U T Z C S = true) : ∃ k : Nat, n = k ∧ HV p k U T Z C S ∧ primeB p = true := by
  unfold hopB at h
  simp only [Bool.and_eq_true] at h
  obtain ⟨k, hk, hV⟩ := hsh_valid hU hT hZ hC hS h.1
  refine ⟨k, hk, hV, ?_⟩
  have := h.1
  unfold hshB at this
  simp only [Bool.and_eq_true] at this
  have hf := shape_field this.1
  unfold fieldB at hf
  simp only [Bool.and_eq_true] at hf
  exact hf.1

/-- one round of the program's check, at a module that lies at a place -/
theorem areModules1_s (d : Int) (A : Nat → Int) (hA : isU8 512 A) :
    Spec Tryz.prog 20 [hopV p n U T Z C S, .sl 0 0 1 1] [some (.pair (modV d A) .unit, 513)] (fun r m => r = .bool (hmB p n U T Z C S d A) ∧ m = [some (.pair (modV d A) .unit, 513)]) := by
  have mR : SV.eqv (.pair (modV d A) .unit) (.pair (modV d A) .unit) := And.intro (modR d A) rfl
  refine Spec.cut (Nat.le_refl _) (by simp [SV.ids]) (fun id u c hb => by cases id <;> cases hb; simp [SV.ids, modV]) (Spec.of_vc tabOK tabEq Tryz.func20 rfl (by kernel_rfl) rfl rfl ?_)
  refine And.intro trivial (Spec.mono (isHopf_s p n U T Z C S hU hT hZ hC hS) ?_)
  rintro r m ⟨rfl, rfl⟩
  refine ifVC_split (fun ha => ?_) (fun ha => ?_)
  · have ha : hopB p n U T Z C S = false := by simpa using ha
    exact And.intro (boolEq (by unfold hmB; rw [ha]; rfl)) (And.intro (And.intro mR rfl) trivial)
  have ha : hopB p n U T Z C S = true := by simpa using ha
  obtain ⟨n, rfl, hV, hpr⟩ := hop_valid p n U T Z C S hU hT hZ hC hS ha
  refine LoopVC.of (fun i : Nat => i ≤ 1 ∧ (i = 1 → mdlB p n d U T A = true)) (fun i => [(2, .ptr 1 [] 0 0), (10, .sl 0 0 1 1), (11, .int .i64 1), (12, .int .i64 i)]) (fun _ => [some (.pair (modV d A) .unit, 513), some (hopV p n U T Z C S, 1106)]) (fun i => 1 - i) 0 ⟨by omega, fun h => by omega⟩ ?_ ?_ ?_
  · exact (And.intro rfl (And.intro rfl (And.intro rfl (And.intro rfl (trivial)))))
  · exact And.intro (And.intro mR rfl) (And.intro (And.intro (hopR p n U T Z C S) rfl) trivial)
  · rintro i ⟨hi, hall⟩
    refine ifVC_split (fun h => ?_) (fun h => ?_)
    · have hlt := of_decide_eq_true h
      obtain rfl : i = 0 := by omega
      (repeat (first | refine And.intro (by omega) ?_ | refine And.intro ⟨by omega, by omega⟩ ?_))
      cases hf : fieldB p d with
      | false =>
        refine And.intro trivial (Spec.mono (isTableNo_s p n d _ hf (fun q hq => hA _ (by omega))) ?_)
        rintro r m ⟨rfl, rfl⟩
        exact And.intro (boolEq (by unfold hmB mdlB; rw [hf]; simp)) (And.intro (And.intro mR rfl) trivial)
      | true =>
        refine And.intro trivial (Spec.mono (isTableC_s p n d _ hf (fun q hq => hA _ (by omega))) ?_)
        rintro r m ⟨rfl, rfl⟩
        obtain ⟨d, rfl⟩ : ∃ e : Nat, d = e := ⟨d.toNat, by have := (field_bounds hf).2; omega⟩
        refine ifVC_split (fun hc => ?_) (fun hc => ?_)
        · have hc : tabCB p n d A = false := by simpa using hc
          exact And.intro (boolEq (by unfold hmB mdlB; rw [hc]; simp)) (And.intro (And.intro mR rfl) trivial)
        have hc : tabCB p n d A = true := by simpa using hc
        have hM : ModP p n d A := mod_of hA hf hc
        refine And.intro trivial (Spec.mono (keepsActions_s p n d U T Z C S _ hV (fun q hq => hA _ (by omega)) hM.d8) ?_)
        rintro r m ⟨rfl, rfl⟩
        have e : mdlB p n d U T A = keepB p n d U T A := by unfold mdlB; rw [hf, hc]; simp
        refine ifVC_split (fun hk => ?_) (fun hk => ?_)
        · have hk : keepB p n d U T A = false := by simpa using hk
          exact And.intro (boolEq (by unfold hmB; rw [e, hk]; simp)) (And.intro (And.intro mR rfl) trivial)
        have hk : keepB p n d U T A = true := by simpa using hk
        refine Exists.intro 1 (And.intro ⟨by omega, fun _ => by rw [e]; exact hk⟩ (And.intro (by omega) (And.intro (And.intro rfl (And.intro rfl (And.intro rfl (And.intro rfl trivial)))) (And.intro (And.intro mR rfl) (And.intro (And.intro (hopR p n U T Z C S) rfl) trivial)))))
    · have hge := of_decide_eq_false h
      obtain rfl : i = 1 := by omega
      exact And.intro (boolEq (by unfold hmB; rw [ha, hall rfl]; rfl)) (And.intro (And.intro mR rfl) trivial)
end
end Go.Proofs.YtjanlnngeklhoabGreat

/- Lists of one module and of two, on both sides. -/
set_option linter.unusedVariables false
set_option linter.unusedSimpArgs false
set_option maxRecDepth 100000
set_option maxHeartbeats 1000000
namespace Go.Proofs.YtjanlnngeklhoabGreat
open M

section
variable (p n : Int) (U T Z C S : Nat → Int) (hU : isU8 8 U) (hT : isU8 512 T) (hZ : isU8 8 Z) (hC : isU8 512 C) (hS : isU8 64 S)
include hU hT hZ hC hS

theorem l06Code1_s (d : Int) (A : Nat → Int) (hA : isU8 512 A) :
    Spec Tryz.prog 15 [hopV p n U T Z C S, .sl 0 0 1 1] [some (.pair (modV d A) .unit, 513)] (fun r m => r = .int .i64 (if hmB p n U T Z C S d A = true then 0 else 1) ∧ m = [some (.pair (modV d A) .unit, 513)]) := by
  have mR : SV.eqv (.pair (modV d A) .unit) (.pair (modV d A) .unit) := And.intro (modR d A) rfl
  refine Spec.cut (Nat.le_refl _) (by simp [SV.ids]) (fun id u c hb => by cases id <;> cases hb; simp [SV.ids, modV]) (Spec.of_vc tabOK tabEq Tryz.func15 rfl (by kernel_rfl) rfl rfl ?_)
  refine And.intro trivial (Spec.mono (l03Is_s p n U T Z C S hU hT hZ hC hS) ?_)
  rintro r m ⟨rfl, rfl⟩
  refine ifVC_split (fun ha => ?_) (fun ha => ?_)
  · have ha : hopB p n U T Z C S = false := by simpa using ha
    exact And.intro (slotI (by unfold hmB; rw [ha]; rfl)) (And.intro (And.intro mR rfl) trivial)
  have ha : hopB p n U T Z C S = true := by simpa using ha
  obtain ⟨n, rfl, hV, hpr⟩ := hop_valid p n U T Z C S hU hT hZ hC hS ha
  refine LoopVC.of (fun i : Nat => i ≤ 1 ∧ (1 ≤ i → mdlB p n d U T A = true)) (fun i => [(1, .sl 0 0 1 1), (2, .ptr 1 [] 0 0), (5, .int .i64 i)]) (fun _ => [some (.pair (modV d A) .unit, 513), some (hopV p n U T Z C S, 1106)]) (fun i => 1 - i) 0 ⟨by omega, fun h => by omega⟩ ?_ ?_ ?_
  · exact (And.intro rfl (And.intro rfl (And.intro rfl (trivial))))
  · exact And.intro (And.intro mR rfl) (And.intro (And.intro (hopR p n U T Z C S) rfl) trivial)
  · rintro i ⟨hi, hall⟩
    refine ifVC_split (fun h => ?_) (fun h => ?_)
    · have hlt := of_decide_eq_true h
      obtain rfl : i = 0 := by omega
      refine Exists.intro 6 (And.intro (by kernel_rfl) ?_)
      (repeat (first | refine And.intro (by omega) ?_ | refine And.intro ⟨by omega, by omega⟩ ?_))
      refine Exists.intro (.bool (mdlB p n d U T A)) (And.intro (And.intro rfl (And.intro rfl (Spec.mono (l06Holds_s p n d U T Z C S _ hV hpr hA) fun r m h => h.1))) ?_)
      refine ifVC_split (fun hk => ?_) (fun hk => ?_)
      · have hk : mdlB p n d U T A = false := by simpa using hk
        exact And.intro (slotI (by unfold hmB; rw [hk]; simp)) (And.intro (And.intro mR rfl) trivial)
      have hk : mdlB p n d U T A = true := by simpa using hk
      refine Exists.intro 1 (And.intro ⟨by omega, fun _ => hk⟩ (And.intro (by omega) (And.intro (And.intro rfl (And.intro rfl (And.intro rfl trivial))) (And.intro (And.intro mR rfl) (And.intro (And.intro (hopR p n U T Z C S) rfl) trivial)))))
    · have hge := of_decide_eq_false h
      exact And.intro (slotI (by unfold hmB; rw [ha, hall (by omega)]; rfl)) (And.intro (And.intro mR rfl) trivial)

/-- a Hopf algebra and two modules of it -/
def hm2B (p n : Int) (U T Z C S : Nat → Int) (d : Int) (A : Nat → Int) (e : Int) (B : Nat → Int) : Bool := hopB p n U T Z C S && (mdlB p n d U T A && mdlB p n e U T B)

end
end Go.Proofs.YtjanlnngeklhoabGreat

/- IsModule, ActOn, CharacterOf, on both sides, and the laws. -/
set_option linter.unusedVariables false
set_option linter.unusedSimpArgs false
set_option maxRecDepth 100000
set_option maxHeartbeats 1000000
namespace Go.Proofs.YtjanlnngeklhoabGreat
open M

theorem code_bad {b : Bool} (h : ((if b = true then (0 : Int) else 1) != 0) = true) : b = false := by cases b <;> simp_all
theorem code_ok {b : Bool} (h : ((if b = true then (0 : Int) else 1) != 0) = false) : b = true := by cases b <;> simp_all
theorem mdl_field {p n d : Int} {U T A : Nat → Int} (h : mdlB p n d U T A = true) : fieldB p d = true := by
  unfold mdlB at h
  simp only [Bool.and_eq_true] at h
  exact h.1

section
variable (p n : Int) (U T Z C S : Nat → Int) (hU : isU8 8 U) (hT : isU8 512 T) (hZ : isU8 8 Z) (hC : isU8 512 C) (hS : isU8 64 S)
include hU hT hZ hC hS
variable (d : Int) (A : Nat → Int) (hA : isU8 512 A)
include hA

theorem hm_spec (h : hmB p n U T Z C S d A = true) : ∃ k e : Nat, n = k ∧ d = e ∧ HV p k U T Z C S ∧ primeB p = true ∧ ModP p k e A ∧ mdlB p n d U T A = true := by
  unfold hmB at h
  simp only [Bool.and_eq_true] at h
  obtain ⟨k, rfl, hV, hpr⟩ := hop_valid p n U T Z C S hU hT hZ hC hS h.1
  have hf := mdl_field h.2
  obtain ⟨e, rfl⟩ : ∃ e : Nat, d = e := ⟨d.toNat, by have := (field_bounds hf).2; omega⟩
  have h2 := h.2
  unfold mdlB at h2
  simp only [Bool.and_eq_true] at h2
  exact ⟨k, e, rfl, rfl, hV, hpr, mod_of hA hf h2.2.1, h.2⟩

/-! ### IsModule -/
/-! ### ActOn -/
variable (a v : Nat → Int) (ha : isU8 8 a) (hv : isU8 8 v)
include ha hv
def actOk (p n : Int) (U T Z C S : Nat → Int) (d : Int) (A a v : Nat → Int) : Bool := hmB p n U T Z C S d A && (entriesB p d v && entriesB p n a)
def actOut (p n : Int) (U T Z C S : Nat → Int) (d : Int) (A a v : Nat → Int) : SV := .tcons (.ints .u8 8 fun j => if actOk p n U T Z C S d A a v = true then prodF p A a v j else 0) (.tcons (.int .i64 (if actOk p n U T Z C S d A a v = true then 0 else 1)) .tnil)

end
end Go.Proofs.YtjanlnngeklhoabGreat

/- An argument that is a module: its numbers. -/
set_option linter.unusedVariables false
set_option linter.unusedSimpArgs false
namespace Go.Proofs.YtjanlnngeklhoabGreat
variable {P : Program} {H : Type} {enc : TypeId × Value → H}

theorem open_modG {w : World} {r : Reach} {b0 b : Nat} {sp : Nat → Bool} {hd : Bool} {t : TypeId} {f0 f1 : Field} {d1 : Nat} (hs : P.underlying t = some (.struct #[f0, f1])) (hsz : (P.info? t).map (·.size) = some 513)
    (h0 : P.underlying f0.type = some (.int .i64)) (z0 : (P.info? f0.type).map (·.size) = some 1) (o0 : f0.offset = 0)
    (h1 : RowT P f1.type .u8 512 d1) (z1 : (P.info? f1.type).map (·.size) = some 512) (o1 : f1.offset = 1)
    {v : Value} {x : DataW H} {ps : List MemPlace} (hval : Value.okWide P w r b0 t v) (ht : DataW.Trod enc P w b sp hd t v x ps) :
    ∃ (d : Int) (A : Nat → Int), (∀ μ, v = toVal μ (modV d A)) ∧ isU8 512 A ∧ ps = [] := by
  unfold Value.okWide at hval
  rw [hs] at hval
  obtain ⟨cs, rfl, _⟩ := hval
  obtain ⟨fuel, hf⟩ := ht
  obtain ⟨xs, n, _, hx, hl, hlen, hfs⟩ := DataW.trod_struct hs hf
  have hl' : cs.toList.length = 513 := by rw [cellsOf_of hsz] at hl; exact hl
  match xs, hlen with
  | [y0, y1], _ =>
    have g0 := hfs 0 f0 rfl
    have g1 := hfs 1 f1 rfl
    rw [cellsOf_of z0, o0] at g0
    rw [cellsOf_of z1, o1] at g1
    obtain ⟨p, e0, w0, q0⟩ := trod_int_cell h0 g0
    obtain ⟨l1, c1, q1⟩ := open_row h1 _ _ _ z1 g1
    obtain ⟨e1, w1⟩ := row_cells (μ := fun _ => 0) l1 c1
    refine ⟨p, _, fun μ => ?_, fun j hj => u8_bounds (w1 j hj), ?_⟩
    · have hcs : cs.toList = (cs.toList.drop 0).take 1 ++ (cs.toList.drop 1).take 512 := by
        have a1 : (cs.toList.drop 1).take 512 = cs.toList.drop 1 := List.take_of_length_le (by simp [hl'])
        rw [a1]
        exact (List.take_append_drop 1 cs.toList).symm
      show Value.agg cs = Value.agg _
      congr 1
      apply Array.ext'
      have e0' : (cs.toList.drop 0).take 1 = [.int .i64 p] := e0
      have e1' : (cs.toList.drop 1).take 512 = _ := e1
      rw [hcs, e0', e1']
      simp [modV, flat, scal]
    · have : ps = [y0, y1].flatMap (·.2) := congrArg Prod.snd hx
      rw [this]
      simp [q0, q1]
end Go.Proofs.YtjanlnngeklhoabGreat

/- Submodules of vectors: modules with vectors, images of the basis elements. -/
set_option linter.unusedVariables false
set_option linter.unusedSimpArgs false
set_option linter.unusedSectionVars false
set_option maxRecDepth 100000
set_option maxHeartbeats 4000000
namespace Go.Proofs.YtjanlnngeklhoabGreat
open M

theorem primeB_rngS {p : Int} (h : primeB p = true) : 2 ≤ p ∧ p ≤ 31 := by
  by_cases e : p < 2 ∨ 31 < p
  · rw [primeB_out e] at h; cases h
  · omega

/-! ### steps -/
section
variable {P : Program} {T : Tab} {N : Nat} {ops : Array Oper} {o : Oper} {r : List Oper} {s : Slots} {m : Mem} {K : Slots → Mem → Prop} {t id off n c es ln base h : Nat} {path : List Nat} {k : IntKind} {a x ix : Operand} {ea : Bool} {v : SV} {q : Nat}
theorem opsVC_cutP {y : Operand} (hg : o.guard = none) (ho : o.op = .slice t x none (some y) none) (ht : T.ti t = .arr ln es ea) (hx : ev s x = some (.ptr id (q :: path) base off)) (hy : ev s y = some (.int .i64 h)) (hb : h ≤ ln) (hk : opsVC P T N ops r (sset N s o.dst (.slp id (q :: path) base off h ln)) m K) : opsVC P T N ops (o :: r) s m K := by
  refine opsVC_one hg ?_
  simp only [oneVC, ho, readVC, ht, hx, evB, hy, cutP]
  exact ⟨⟨by omega, by omega⟩, by simpa using hk⟩
theorem opsVC_lenP {cl : Call} (hg : o.guard = none) (ho : o.op = .call cl) (hc : cl.callee = .builtin .len) (ht : cl.argTypes[0]? = some t) (hs : T.ti t = .slice es) (hx : evs s cl.args.toList = some [.slp id path base off n c]) (hk : opsVC P T N ops r (sset N s o.dst (.int .i64 n)) m K) : opsVC P T N ops (o :: r) s m K := by
  refine opsVC_one hg ?_
  simp only [oneVC, ho, hc, readVC, ht, hx, hs]
  exact hk
theorem opsVC_iaP {z : Int} (hg : o.guard = none) (ho : o.op = .indexAddr t x ix) (ht : T.ti t = .slice es) (hx : ev s x = some (.slp id path base off n c)) (hi : ev s ix = some (.int k z)) (hb : 0 ≤ z ∧ z < n) (hk : opsVC P T N ops r (sset N s o.dst (.ptr id path base (z.toNat * es + off))) m K) : opsVC P T N ops (o :: r) s m K := by
  refine opsVC_one hg ?_
  simp only [oneVC, ho, readVC, ht, hx, hi]
  exact ⟨hb, hk⟩
end

/-! ### modules with vectors -/
section
variable (p n : Int) (U T Z C S : Nat → Int) (hU : isU8 8 U) (hT : isU8 512 T) (hZ : isU8 8 Z) (hC : isU8 512 C) (hS : isU8 64 S) (d : Int) (B : Nat → Int) (hB : isU8 512 B)
include hU hT hZ hC hS hB
theorem isModuleWith_s (len : Nat) (V : Nat → Int) (hlen : len ≤ 1000) (hV : isU8 (len * 8) V) :
    Spec Tryz.prog 29 [hopV p n U T Z C S, modV d B, .sl 0 0 len len] [some (.ints .u8 (len * 8) V, len * 8)] (fun r m => r = .bool (hmB p n U T Z C S d B && vectorsB p d len V) ∧ m = [some (.ints .u8 (len * 8) V, len * 8)]) := by
  refine Spec.cut (Nat.le_refl _) (by simp [SV.ids]) (fun id u c hb => by cases id <;> cases hb; simp [SV.ids]) (Spec.of_vc tabOK tabEq Tryz.func29 rfl (by kernel_rfl) rfl rfl ?_)
  refine And.intro (And.intro rfl trivial) (Spec.mono (areModules1_s p n U T Z C S hU hT hZ hC hS d B hB) ?_)
  rintro r m ⟨rfl, rfl⟩
  refine ifVC_split (fun ha => ?_) (fun ha => ?_)
  · have hfd : fieldB p d = true := by
      unfold hmB at ha
      simp only [Bool.and_eq_true] at ha
      exact mdl_field ha.2
    refine And.intro (And.intro rfl trivial) (Spec.mono (areVectors_s p d len V hlen hfd hV) ?_)
    rintro r m ⟨rfl, rfl⟩
    exact And.intro (boolEq (by simp [ha])) (And.intro (And.intro (rowEq fun _ _ => rfl) rfl) trivial)
  · exact And.intro (boolEq (by simp [ha])) (And.intro (And.intro (rowEq fun _ _ => rfl) rfl) trivial)
theorem l06Vectors_s (len : Nat) (V : Nat → Int) (hlen : len ≤ 1000) (hV : isU8 (len * 8) V) :
    Spec Tryz.prog 26 [hopV p n U T Z C S, modV d B, .sl 0 0 len len] [some (.ints .u8 (len * 8) V, len * 8)] (fun r m => r = .int .i64 (if (hmB p n U T Z C S d B && vectorsB p d len V) = true then 0 else 1) ∧ m = [some (.ints .u8 (len * 8) V, len * 8)]) := by
  refine Spec.cut (Nat.le_refl _) (by simp [SV.ids]) (fun id u c hb => by cases id <;> cases hb; simp [SV.ids]) (Spec.of_vc tabOK tabEq Tryz.func26 rfl (by kernel_rfl) rfl rfl ?_)
  refine And.intro (And.intro rfl trivial) (Spec.mono (l06Code1_s p n U T Z C S hU hT hZ hC hS d B hB) ?_)
  rintro r m ⟨rfl, rfl⟩
  refine ifVC_split (fun ha => ?_) (fun ha => ?_)
  · have ha : hmB p n U T Z C S d B = false := code_bad ha
    exact And.intro (slotI (by simp [ha])) (And.intro (And.intro (rowEq fun _ _ => rfl) rfl) trivial)
  have ha : hmB p n U T Z C S d B = true := code_ok ha
  change vc _ _ _ _ _ [some (.ints .u8 (len * 8) V, len * 8), some (hopV p n U T Z C S, 1106), some (modV d B, 513), some ((modV d B).pair SV.unit, 513)] _
  refine LoopVC.of (fun i : Nat => i ≤ len ∧ ∀ j, j < i → entriesB p d (partF V 8 j) = true) (fun i => [(2, .sl 0 0 len len), (3, .ptr 1 [] 0 0), (4, .ptr 2 [] 0 0), (8, .int .i64 i)]) (fun _ => [some (.ints .u8 (len * 8) V, len * 8), some (hopV p n U T Z C S, 1106), some (modV d B, 513), some ((modV d B).pair SV.unit, 513)]) (fun i => len - i) 0 ⟨by omega, fun j hj => by omega⟩ ?_ ?_ ?_
  · exact (And.intro rfl (And.intro rfl (And.intro rfl (And.intro rfl (trivial)))))
  · exact And.intro (And.intro (rowEq fun _ _ => rfl) rfl) (And.intro (And.intro (hopR p n U T Z C S) rfl) (And.intro (And.intro (modR d B) rfl) (And.intro (And.intro (And.intro (modR d B) rfl) rfl) trivial)))
  · rintro i ⟨hi, hall⟩
    refine ifVC_split (fun h => ?_) (fun h => ?_)
    · have hlt := of_decide_eq_true h
      have hidx : (i : Int).toNat = i := by omega
      refine Exists.intro 9 (And.intro (by kernel_rfl) ?_)
      refine And.intro ⟨by omega, by omega⟩ ?_
      refine And.intro (by omega) ?_
      have he : entriesB p d (fun j => V (j + ((i : Int).toNat * 8 + 0))) = entriesB p d (partF V 8 i) := by rw [hidx]; rfl
      refine Exists.intro (.bool (entriesB p d (partF V 8 i))) (And.intro (And.intro rfl (And.intro rfl (Spec.mono (l01Vector_s p d _ (fun j hj => hV _ (by omega))) fun r m h => by rw [← he]; exact h.1))) ?_)
      refine ifVC_split (fun hv => ?_) (fun hv => ?_)
      · have hv : entriesB p d (partF V 8 i) = false := by simpa using hv
        exact And.intro (slotI (by simp [vectorsB_no (p := p) (n := d) (V := V) (len := len) (i := i) (by omega) hv])) (And.intro (And.intro (rowEq fun _ _ => rfl) rfl) trivial)
      · have hv : entriesB p d (partF V 8 i) = true := by simpa using hv
        refine Exists.intro (i + 1) (And.intro ⟨by omega, fun j hj => ?_⟩ (And.intro (by omega) (And.intro ?_ ?_)))
        · by_cases hji : j = i
          · subst hji; exact hv
          · exact hall j (by omega)
        · exact And.intro rfl (And.intro rfl (And.intro rfl (And.intro (slotI (wrapS (by omega))) trivial)))
        · exact And.intro (And.intro (rowEq fun _ _ => rfl) rfl) (And.intro (And.intro (hopR p n U T Z C S) rfl) (And.intro (And.intro (modR d B) rfl) (And.intro (And.intro (And.intro (modR d B) rfl) rfl) trivial)))
    · have hge := of_decide_eq_false h
      exact And.intro (slotI (by simp [ha, vectorsB_yes (p := p) (n := d) (V := V) (len := len) fun j hj => hall j (by omega)])) (And.intro (And.intro (rowEq fun _ _ => rfl) rfl) trivial)
end

/-! ### images -/
/-- what the basis element l makes of v -/
def imgF (p : Int) (B v : Nat → Int) (l : Nat) : Nat → Int := fun j => linS (partF B 64 l) v 8 j % p
structure SI (m : Mem) (p n : Nat) (U T Z C S : Nat → Int) (d : Nat) (B v : Nat → Int) (M : Mem) (w : SV) (cnt id c : Nat) (F : Nat → Int) : Prop where
  b1 : blockOf M m.length = some (hopV p n U T Z C S, 1106)
  b2 : blockOf M (m.length + 1) = some (modV d B, 513)
  ve : w = listV id cnt c
  val : ∀ l, l < cnt → ∀ j, j < 8 → F (l * 8 + j) = imgF p B v l j
  b : cnt ≠ 0 → m.length ≤ id ∧ blockOf M id = some (.ints .u8 (cnt * 8) F, c * 8) ∧ cnt ≤ c
  old : ∀ q, q < m.length → blockOf M q = blockOf m q
  len : m.length + 2 ≤ M.length
  clo : Clo M
theorem listV_idsS {id k c i : Nat} (h : i ∈ (listV id k c).ids) : k ≠ 0 ∧ i = id := by
  unfold listV at h
  by_cases e : k = 0
  · rw [if_pos e] at h; cases h
  · rw [if_neg e] at h; simp [SV.ids] at h; exact ⟨e, h⟩
theorem SI.plus {m : Mem} {p n : Nat} {U T Z C S : Nat → Int} {d : Nat} {B v : Nat → Int} {M : Mem} {w : SV} {cnt id c : Nat} {F : Nat → Int} (h : SI m p n U T Z C S d B v M w cnt id c F) {u : SV} {cc : Nat} {M' : Mem} (q : Plus M M.length u cc M') (hu : ∀ i ∈ u.ids, i < M.length + 1) : SI m p n U T Z C S d B v M' w cnt id c F := by
  have l := h.len
  have l2 := q.len
  exact ⟨(q.old _ (by omega) (by omega)).trans h.b1, (q.old _ (by omega) (by omega)).trans h.b2, h.ve, h.val, fun hne => by
    obtain ⟨h1, h2, h3⟩ := h.b hne
    have hl := blockOf_lt (m := M) (id := id) (by rw [h2]; rfl)
    exact ⟨h1, (q.old id hl (by omega)).trans h2, h3⟩, fun r hr => (q.old r (by omega) (by omega)).trans (h.old r hr), by omega, q.clo h.clo hu⟩
theorem SI.app {m : Mem} {p n : Nat} {U T Z C S : Nat → Int} {d : Nat} {B v : Nat → Int} {M : Mem} {w : SV} {cnt id c : Nat} {F : Nat → Int} (h : SI m p n U T Z C S d B v M w cnt id c F) {b cap' : Nat} {F' : Nat → Int} {M' : Mem}
    (q : Plus M b (.ints .u8 ((cnt + 1) * 8) F') (cap' * 8) M') (hb : (cnt ≠ 0 ∧ b = id) ∨ b = M.length) (hcap : cnt + 1 ≤ cap') (h1 : ∀ j, j < cnt * 8 → F' j = F j) (h2 : ∀ j, j < 8 → F' (cnt * 8 + j) = imgF p B v cnt j) : SI m p n U T Z C S d B v M' (.sl M.length 0 (cnt + 1) cap') (cnt + 1) M.length cap' F' := by
  have l := h.len
  have l2 := q.len
  have hbb : m.length + 1 < b := by
    rcases hb with ⟨hne, rfl⟩ | rfl
    · obtain ⟨g1, g2, g3⟩ := h.b hne
      have e1 : b ≠ m.length := fun e => by rw [e, h.b1] at g2; cases g2
      have e2 : b ≠ m.length + 1 := fun e => by rw [e, h.b2] at g2; cases g2
      omega
    · omega
  refine ⟨(q.old _ (by omega) (by omega)).trans h.b1, (q.old _ (by omega) (by omega)).trans h.b2, by unfold listV; rw [if_neg (by omega)], fun k hk j hj => ?_, fun _ => ⟨by omega, q.new, hcap⟩, fun r hr => (q.old r (by omega) (by omega)).trans (h.old r hr), by omega, q.clo h.clo (by simp [SV.ids])⟩
  by_cases e : k = cnt
  · subst e; exact h2 j hj
  · rw [h1 _ (by omega)]; exact h.val k (by omega) j hj
abbrev SX := Nat × SV × Nat × Nat × (Nat → Int) × Mem
theorem imagesIn_s (m : Mem) (p n : Nat) (U T Z C S : Nat → Int) (d : Nat) (B V : Nat → Int) (sid : Nat) (hb : blockOf m sid = some (.ints .u8 (1 * 8) V, 1 * 8)) (hm : Clo m) (hp : 0 < p ∧ p < 256) (hn : n ≤ 8) (hB : isU8 512 B) (hV : isU8 8 V) :
    Spec Tryz.prog 31 [hopV p n U T Z C S, modV d B, .sl sid 0 1 1] m (fun r m' => ∃ id c F, r = listV id n c ∧ (∀ l, l < n → ∀ j, j < 8 → F (l * 8 + j) = imgF p B V l j) ∧ (n ≠ 0 → m.length ≤ id ∧ blockOf m' id = some (.ints .u8 (n * 8) F, c * 8) ∧ n ≤ c) ∧ m.length ≤ m'.length ∧ (∀ q, q < m.length → blockOf m' q = blockOf m q) ∧ Clo m') := by
  have hlt : sid < m.length := blockOf_lt (by rw [hb]; rfl)
  refine Spec.of_vc tabOK tabEq Tryz.func31 rfl (by kernel_rfl) rfl (by simp [idsOf, hopV, modV, SV.ids, Nat.blt_eq, hlt]) ?_
  (repeat (first | (with_reducible refine vc_exit ?_) | (with_reducible refine vc_ret ?_) | (with_reducible refine vc_skip ?_) | (with_reducible refine thenQ_x ?_) | (with_reducible refine thenQ_r ?_) | (with_reducible refine thenQ_n ?_) | (with_reducible refine blockQ_x rfl ?_) | (with_reducible refine blockQ_y rfl ?_) | (with_reducible refine blockQ_n ?_) | (with_reducible refine blockQ_r ?_) | (with_reducible refine vc_seq ?_) | (with_reducible refine vc_region ?_) | (with_reducible refine vc_block ?_) | (with_reducible refine vc_scope ?_) | (with_reducible refine opsVC_nil ?_)))
  refine opsVC_boxP rfl rfl rfl rfl fun M1 p1 => ?_
  refine opsVC_boxP rfl rfl rfl rfl fun M2 p2 => ?_
  refine opsVC_as rfl rfl rfl ?_
  (repeat (first | (with_reducible refine vc_exit ?_) | (with_reducible refine vc_ret ?_) | (with_reducible refine vc_skip ?_) | (with_reducible refine thenQ_x ?_) | (with_reducible refine thenQ_r ?_) | (with_reducible refine thenQ_n ?_) | (with_reducible refine blockQ_x rfl ?_) | (with_reducible refine blockQ_y rfl ?_) | (with_reducible refine blockQ_n ?_) | (with_reducible refine blockQ_r ?_) | (with_reducible refine vc_seq ?_) | (with_reducible refine vc_region ?_) | (with_reducible refine vc_block ?_) | (with_reducible refine vc_scope ?_) | (with_reducible refine opsVC_nil ?_)))
  have l1 := p1.len
  have l2 := p2.len
  rw [l1]
  have c1 := p1.clo hm (fun i hi => by simp [hopV, SV.ids] at hi)
  have c2 := p2.clo c1 (fun i hi => by simp [modV, SV.ids] at hi)
  have b1 : blockOf M2 m.length = some (hopV p n U T Z C S, 1106) := (p2.old _ (by omega) (by omega)).trans p1.new
  have b2 : blockOf M2 (m.length + 1) = some (modV d B, 513) := by have := p2.new; rw [l1] at this; exact this
  refine opsVC_as rfl rfl rfl ?_
  (repeat (first | (with_reducible refine vc_exit ?_) | (with_reducible refine vc_ret ?_) | (with_reducible refine vc_skip ?_) | (with_reducible refine thenQ_x ?_) | (with_reducible refine thenQ_r ?_) | (with_reducible refine thenQ_n ?_) | (with_reducible refine blockQ_x rfl ?_) | (with_reducible refine blockQ_y rfl ?_) | (with_reducible refine blockQ_n ?_) | (with_reducible refine blockQ_r ?_) | (with_reducible refine vc_seq ?_) | (with_reducible refine vc_region ?_) | (with_reducible refine vc_block ?_) | (with_reducible refine vc_scope ?_) | (with_reducible refine opsVC_nil ?_)))
  refine opsVC_fa rfl rfl rfl rfl rfl ?_
  refine opsVC_fa rfl rfl rfl rfl rfl ?_
  refine opsVC_loadF (v := .int .i64 n) rfl rfl rfl b1 rfl rfl (fun _ h => h) ?_
  refine opsVC_cutP rfl rfl rfl rfl rfl hn ?_
  refine opsVC_lenP rfl rfl rfl rfl rfl rfl ?_
  refine opsVC_mv rfl rfl rfl ?_
  (repeat (first | (with_reducible refine vc_exit ?_) | (with_reducible refine vc_ret ?_) | (with_reducible refine vc_skip ?_) | (with_reducible refine thenQ_x ?_) | (with_reducible refine thenQ_r ?_) | (with_reducible refine thenQ_n ?_) | (with_reducible refine blockQ_x rfl ?_) | (with_reducible refine blockQ_y rfl ?_) | (with_reducible refine blockQ_n ?_) | (with_reducible refine blockQ_r ?_) | (with_reducible refine vc_seq ?_) | (with_reducible refine vc_region ?_) | (with_reducible refine vc_block ?_) | (with_reducible refine vc_scope ?_) | (with_reducible refine opsVC_nil ?_)))
  refine LoopVC.ofR (fun x : SX => x.1 ≤ n ∧ SI m p n U T Z C S d B V x.2.2.2.2.2 x.2.1 x.1 x.2.2.1 x.2.2.2.1 x.2.2.2.2.1) (fun x => [(2, .sl sid 0 1 1), (3, .ptr m.length [] 0 0), (4, .ptr (m.length + 1) [] 0 0), (7, x.2.1), (15, .slp (m.length + 1) [1] 1 0 n 8), (16, .int .i64 n), (17, .int .i64 x.1)]) (fun x => x.2.2.2.2.2) (fun x => n - x.1) (0, .nilsl, 0, 0, (fun _ => 0), M2)
    ⟨Nat.zero_le _, b1, b2, rfl, fun l hl => absurd hl (Nat.not_lt_zero _), fun h => absurd rfl h, fun q hq => (p2.old q (by omega) (by omega)).trans (p1.old q hq (by omega)), by show m.length + 2 ≤ M2.length; omega, c2⟩ (fun i => i) (RenTo.same ?_ fun i u d hb => ⟨u, hb, eqv_refl u⟩) ?_ ?_ ?_
  · exact (And.intro rfl (And.intro rfl (And.intro rfl (And.intro rfl (And.intro rfl (And.intro rfl (And.intro rfl (trivial))))))))
  · intro x hx; have := hx.2.len; show m.length ≤ _; omega
  · intro x hx
    refine OkP.of ?_ hx.2.clo
    have := hx.2.len
    intro q hq i hi
    simp only [List.mem_cons, List.not_mem_nil, or_false] at hq
    rcases hq with rfl | rfl | rfl | rfl | rfl | rfl | rfl
    · simp [SV.ids] at hi; omega
    · simp [SV.ids] at hi; omega
    · simp [SV.ids] at hi; omega
    · have hi : i ∈ x.2.1.ids := hi
      rw [hx.2.ve] at hi
      obtain ⟨g1, rfl⟩ := listV_idsS hi
      exact blockOf_lt (by rw [(hx.2.b g1).2.1]; rfl)
    · simp [SV.ids] at hi; omega
    · cases hi
    · cases hi
  · rintro ⟨i, w, id, c, F, M⟩ ⟨hi, hI⟩
    dsimp only at hi hI
    have hIl := hI.len
    refine ifVC_split (fun h1 => ?_) (fun h1 => ?_)
    · have hin : i < n := by have := of_decide_eq_true h1; omega
      have hix : (i : Int).toNat = i := by omega
      (repeat (first | (with_reducible refine vc_exit ?_) | (with_reducible refine vc_ret ?_) | (with_reducible refine vc_skip ?_) | (with_reducible refine thenQ_x ?_) | (with_reducible refine thenQ_r ?_) | (with_reducible refine thenQ_n ?_) | (with_reducible refine blockQ_x rfl ?_) | (with_reducible refine blockQ_y rfl ?_) | (with_reducible refine blockQ_n ?_) | (with_reducible refine blockQ_r ?_) | (with_reducible refine vc_seq ?_) | (with_reducible refine vc_region ?_) | (with_reducible refine vc_block ?_) | (with_reducible refine vc_scope ?_) | (with_reducible refine opsVC_nil ?_)))
      refine opsVC_iaP rfl rfl rfl rfl rfl ⟨by omega, by omega⟩ ?_
      refine opsVC_loadF (v := .ints .u8 64 fun q => B (q + ((i : Int).toNat * 64 + 0))) rfl rfl rfl hI.b2 rfl rfl (fun _ h => ⟨by omega, h⟩) ?_
      refine opsVC_alloc rfl rfl rfl rfl ?_
      change opsVC _ _ _ _ _ _ (M ++ [some (SV.ints .u8 64 fun _ => 0, 64)]) _
      refine opsVC_putNew rfl rfl rfl rfl rfl fun D M3 hD p3 => ?_
      (repeat (first | (with_reducible refine vc_exit ?_) | (with_reducible refine vc_ret ?_) | (with_reducible refine vc_skip ?_) | (with_reducible refine thenQ_x ?_) | (with_reducible refine thenQ_r ?_) | (with_reducible refine thenQ_n ?_) | (with_reducible refine blockQ_x rfl ?_) | (with_reducible refine blockQ_y rfl ?_) | (with_reducible refine blockQ_n ?_) | (with_reducible refine blockQ_r ?_) | (with_reducible refine vc_seq ?_) | (with_reducible refine vc_region ?_) | (with_reducible refine vc_block ?_) | (with_reducible refine vc_scope ?_) | (with_reducible refine opsVC_nil ?_)))
      have hI3 := hI.plus p3 (by simp [SV.ids])
      have l3 := p3.len
      refine opsVC_mv rfl rfl rfl ?_
      refine opsVC_len rfl rfl rfl rfl rfl rfl ?_
      refine opsVC_mv rfl rfl rfl ?_
      (repeat (first | (with_reducible refine vc_exit ?_) | (with_reducible refine vc_ret ?_) | (with_reducible refine vc_skip ?_) | (with_reducible refine thenQ_x ?_) | (with_reducible refine thenQ_r ?_) | (with_reducible refine thenQ_n ?_) | (with_reducible refine blockQ_x rfl ?_) | (with_reducible refine blockQ_y rfl ?_) | (with_reducible refine blockQ_n ?_) | (with_reducible refine blockQ_r ?_) | (with_reducible refine vc_seq ?_) | (with_reducible refine vc_region ?_) | (with_reducible refine vc_block ?_) | (with_reducible refine vc_scope ?_) | (with_reducible refine opsVC_nil ?_)))
      refine LoopVC.ofR (fun y : SX => y.1 ≤ 1 ∧ SI m p n U T Z C S d B V y.2.2.2.2.2 y.2.1 (i + y.1) y.2.2.1 y.2.2.2.1 y.2.2.2.2.1 ∧ blockOf y.2.2.2.2.2 M.length = some (.ints .u8 64 D, 64)) (fun y => [(2, .sl sid 0 1 1), (3, .ptr m.length [] 0 0), (4, .ptr (m.length + 1) [] 0 0), (7, y.2.1), (9, .ptr M.length [] 0 0), (15, .slp (m.length + 1) [1] 1 0 n 8), (16, .int .i64 n), (17, .int .i64 i), (21, .sl sid 0 1 1), (22, .int .i64 1), (23, .int .i64 y.1)]) (fun y => y.2.2.2.2.2) (fun y => 1 - y.1) (0, w, id, c, F, M3)
        ⟨Nat.zero_le _, hI3, p3.new⟩ (fun i => i) (RenTo.same ?_ fun i u d hb => ⟨u, hb, eqv_refl u⟩) ?_ ?_ ?_
      · exact And.intro rfl (And.intro rfl (And.intro rfl (And.intro (eqv_refl w) (And.intro rfl (And.intro rfl (And.intro rfl (And.intro rfl (And.intro rfl (And.intro rfl (And.intro rfl trivial))))))))))
      · intro y hy; have := hy.2.1.len; show m.length ≤ _; omega
      · intro y hy
        refine OkP.of ?_ hy.2.1.clo
        have := hy.2.1.len
        have hMl := blockOf_lt (m := y.2.2.2.2.2) (id := M.length) (by rw [hy.2.2]; rfl)
        intro q hq i hi
        simp only [List.mem_cons, List.not_mem_nil, or_false] at hq
        rcases hq with rfl | rfl | rfl | rfl | rfl | rfl | rfl | rfl | rfl | rfl | rfl
        · simp [SV.ids] at hi; omega
        · simp [SV.ids] at hi; omega
        · simp [SV.ids] at hi; omega
        · have hi : i ∈ y.2.1.ids := hi
          rw [hy.2.1.ve] at hi
          obtain ⟨g1, rfl⟩ := listV_idsS hi
          exact blockOf_lt (by rw [(hy.2.1.b g1).2.1]; rfl)
        · simp [SV.ids] at hi; omega
        · simp [SV.ids] at hi; omega
        · cases hi
        · cases hi
        · simp [SV.ids] at hi; omega
        · cases hi
        · cases hi
      · rintro ⟨j, w, id, c, F, M4⟩ ⟨hj, hJ, hD4⟩
        dsimp only at hj hJ hD4
        have hJl := hJ.len
        have hM4 := blockOf_lt (m := M4) (id := M.length) (by rw [hD4]; rfl)
        refine ifVC_split (fun h2 => ?_) (fun h2 => ?_)
        · have hj0 : j = 0 := by have := of_decide_eq_true h2; omega
          subst hj0
          (repeat (first | (with_reducible refine vc_exit ?_) | (with_reducible refine vc_ret ?_) | (with_reducible refine vc_skip ?_) | (with_reducible refine thenQ_x ?_) | (with_reducible refine thenQ_r ?_) | (with_reducible refine thenQ_n ?_) | (with_reducible refine blockQ_x rfl ?_) | (with_reducible refine blockQ_y rfl ?_) | (with_reducible refine blockQ_n ?_) | (with_reducible refine blockQ_r ?_) | (with_reducible refine vc_seq ?_) | (with_reducible refine vc_region ?_) | (with_reducible refine vc_block ?_) | (with_reducible refine vc_scope ?_) | (with_reducible refine opsVC_nil ?_)))
          refine opsVC_ia rfl rfl rfl rfl rfl ⟨by omega, by omega⟩ ?_
          refine opsVC_loadR (l := 8) rfl rfl rfl rfl ((hJ.old sid hlt).trans hb) (by omega) ?_
          refine opsVC_alloc rfl rfl rfl rfl ?_
          change opsVC _ _ _ _ _ _ (M4 ++ [some (SV.ints .u8 8 fun _ => 0, 8)]) _
          refine opsVC_putNew rfl rfl rfl rfl rfl fun E M5 hE p5 => ?_
          (repeat (first | (with_reducible refine vc_exit ?_) | (with_reducible refine vc_ret ?_) | (with_reducible refine vc_skip ?_) | (with_reducible refine thenQ_x ?_) | (with_reducible refine thenQ_r ?_) | (with_reducible refine thenQ_n ?_) | (with_reducible refine blockQ_x rfl ?_) | (with_reducible refine blockQ_y rfl ?_) | (with_reducible refine blockQ_n ?_) | (with_reducible refine blockQ_r ?_) | (with_reducible refine vc_seq ?_) | (with_reducible refine vc_region ?_) | (with_reducible refine vc_block ?_) | (with_reducible refine vc_scope ?_) | (with_reducible refine opsVC_nil ?_)))
          have hJ5 := hJ.plus p5 (by simp [SV.ids])
          have l5 := p5.len
          have hD5 : blockOf M5 M.length = some (.ints .u8 64 D, 64) := (p5.old _ hM4 (by omega)).trans hD4
          have hDv : ∀ q, q < 64 → D q = partF B 64 i q := fun q hq => by
            rw [hD q hq]
            show B (q + ((i : Int).toNat * 64 + 0)) = B (q + i * 64)
            rw [hix]; rfl
          have hEv : ∀ q, q < 8 → E q = V q := fun q hq => by
            rw [hE q hq]
            show V (q + ((0 : Nat) : Int).toNat * 8 + 0) = V q
            simp
          refine opsVC_mv rfl rfl rfl ?_
          refine opsVC_fa rfl rfl rfl rfl rfl ?_
          refine opsVC_loadF (v := .int .i64 p) rfl rfl rfl hJ5.b1 rfl rfl (fun _ h => h) ?_
          refine opsVC_loadR (l := 64) rfl rfl rfl rfl hD5 (by omega) ?_
          refine opsVC_loadR (l := 8) rfl rfl rfl rfl p5.new (by omega) ?_
          refine opsVC_call rfl rfl rfl rfl rfl rfl ?_
          refine callVC_valG rfl (fun _ => rfl) (fun _ => rfl) (apply_s p _ _ ⟨by omega, by omega⟩ (fun q hq => by show 0 ≤ D q ∧ D q < 256; rw [hDv q hq]; exact hB _ (by omega)) (fun q hq => by show 0 ≤ E q ∧ E q < 256; rw [hEv q hq]; exact hV q hq)) ?_
          refine opsVC_row1 rfl rfl rfl rfl rfl rfl fun G M6 hG p6 => ?_
          have hJ6 := hJ5.plus p6 (by simp [SV.ids])
          have l6 := p6.len
          have hD6 : blockOf M6 M.length = some (.ints .u8 64 D, 64) := (p6.old _ (by omega) (by omega)).trans hD5
          have hGv : ∀ j, j < 8 → G j = imgF p B V (i + 0) j := fun j hj => by
            rw [hG j hj]
            show linS D E 8 j % (p : Int) = linS (partF B 64 i) V 8 j % p
            refine congrArg (· % (p : Int)) (linS_congr 8 fun a ha => ?_)
            rw [hEv a ha, hDv _ (by omega)]
          by_cases hz : i + 0 = 0
          · have e7 : w = .nilsl := by rw [hJ.ve]; unfold listV; rw [if_pos hz]
            subst e7
            refine opsVC_appE rfl rfl rfl rfl rfl rfl rfl p6.new (by omega) (by omega) fun cap' F' M7 hcap hF p7 => ?_
            refine opsVC_as rfl rfl rfl ?_
            (repeat (first | (with_reducible refine vc_exit ?_) | (with_reducible refine vc_ret ?_) | (with_reducible refine vc_skip ?_) | (with_reducible refine thenQ_x ?_) | (with_reducible refine thenQ_r ?_) | (with_reducible refine thenQ_n ?_) | (with_reducible refine blockQ_x rfl ?_) | (with_reducible refine blockQ_y rfl ?_) | (with_reducible refine blockQ_n ?_) | (with_reducible refine blockQ_r ?_) | (with_reducible refine vc_seq ?_) | (with_reducible refine vc_region ?_) | (with_reducible refine vc_block ?_) | (with_reducible refine vc_scope ?_) | (with_reducible refine opsVC_nil ?_)))
            have p7 : Plus M6 M6.length (.ints .u8 ((i + 0 + 1) * 8) F') (cap' * 8) M7 := by rw [hz]; exact p7
            have hI7 := hJ6.app p7 (.inr rfl) (by omega) (fun j hj => by omega) (fun j hj => by
              rw [hF]
              show G ((i + 0) * 8 + j + 0) = _
              rw [show (i + 0) * 8 + j + 0 = j by omega]; exact hGv j hj)
            refine Exists.intro (0 + 1, .sl M6.length 0 1 cap', M6.length, cap', F', M7) (Exists.intro (fun i => i) (And.intro ⟨by omega, ?_, (p7.old _ (by omega) (by omega)).trans hD6⟩ (And.intro (show 1 - (0 + 1) < 1 - 0 by omega) (RenTo.same ?_ fun i u d hb => ⟨u, hb, eqv_refl u⟩))))
            · show SI m p n U T Z C S d B V M7 (.sl M6.length 0 1 cap') (i + (0 + 1)) M6.length cap' F'
              rw [show (i + 0 + 1) = 1 by omega] at hI7
              rw [show i + (0 + 1) = 1 by omega]
              exact hI7
            · exact And.intro rfl (And.intro rfl (And.intro rfl (And.intro rfl (And.intro rfl (And.intro rfl (And.intro rfl (And.intro rfl (And.intro rfl (And.intro rfl (And.intro (slotI (wrapS (by omega))) trivial))))))))))
          · have e7 : w = .sl id 0 (i + 0) c := by rw [hJ.ve]; unfold listV; rw [if_neg hz]
            subst e7
            obtain ⟨g1, g2, g3⟩ := hJ6.b hz
            refine opsVC_appN rfl rfl rfl rfl rfl rfl rfl g2 p6.new (by omega) g1 ⟨Nat.le_refl _, rfl, g3, by omega, by omega⟩ fun cap' F' M7 hcap hF1 hF2 p7 => ?_
            refine opsVC_as rfl rfl rfl ?_
            (repeat (first | (with_reducible refine vc_exit ?_) | (with_reducible refine vc_ret ?_) | (with_reducible refine vc_skip ?_) | (with_reducible refine thenQ_x ?_) | (with_reducible refine thenQ_r ?_) | (with_reducible refine thenQ_n ?_) | (with_reducible refine blockQ_x rfl ?_) | (with_reducible refine blockQ_y rfl ?_) | (with_reducible refine blockQ_n ?_) | (with_reducible refine blockQ_r ?_) | (with_reducible refine vc_seq ?_) | (with_reducible refine vc_region ?_) | (with_reducible refine vc_block ?_) | (with_reducible refine vc_scope ?_) | (with_reducible refine opsVC_nil ?_)))
            have hI7 := hJ6.app p7 (.inl ⟨hz, rfl⟩) hcap hF1 (fun j hj => by rw [hF2]; exact hGv j hj)
            have hne : id ≠ M.length := fun e => by rw [e, hD6] at g2; have := (SV.ints.inj (Prod.mk.inj (Option.some.inj g2)).1).2.1; omega
            refine Exists.intro (0 + 1, .sl M6.length 0 (i + 0 + 1) cap', M6.length, cap', F', M7) (Exists.intro (fun i => i) (And.intro ⟨by omega, hI7, (p7.old _ (by omega) (fun e => hne e.symm)).trans hD6⟩ (And.intro (show 1 - (0 + 1) < 1 - 0 by omega) (RenTo.same ?_ fun i u d hb => ⟨u, hb, eqv_refl u⟩))))
            exact And.intro rfl (And.intro rfl (And.intro rfl (And.intro rfl (And.intro rfl (And.intro rfl (And.intro rfl (And.intro rfl (And.intro rfl (And.intro rfl (And.intro (slotI (wrapS (by omega))) trivial))))))))))
        · have hj1 : j = 1 := by have := of_decide_eq_false h2; omega
          subst hj1
          refine Exists.intro (i + 1, w, id, c, F, M4) (Exists.intro (fun i => i) (And.intro ⟨by omega, hJ⟩ (And.intro (show n - (i + 1) < n - i by omega) (RenTo.same ?_ fun i u d hb => ⟨u, hb, eqv_refl u⟩))))
          exact And.intro rfl (And.intro rfl (And.intro rfl (And.intro (eqv_refl w) (And.intro rfl (And.intro rfl (And.intro (slotI (wrapS (by omega))) trivial))))))
    · have hin : i = n := by have := of_decide_eq_false h1; omega
      subst hin
      (repeat (first | (with_reducible refine vc_exit ?_) | (with_reducible refine vc_ret ?_) | (with_reducible refine vc_skip ?_) | (with_reducible refine thenQ_x ?_) | (with_reducible refine thenQ_r ?_) | (with_reducible refine thenQ_n ?_) | (with_reducible refine blockQ_x rfl ?_) | (with_reducible refine blockQ_y rfl ?_) | (with_reducible refine blockQ_n ?_) | (with_reducible refine blockQ_r ?_) | (with_reducible refine vc_seq ?_) | (with_reducible refine vc_region ?_) | (with_reducible refine vc_block ?_) | (with_reducible refine vc_scope ?_) | (with_reducible refine opsVC_nil ?_)))
      refine opsVC_mv rfl rfl rfl ?_
      refine opsVC_as rfl rfl rfl ?_
      (repeat (first | (with_reducible refine vc_exit ?_) | (with_reducible refine vc_ret ?_) | (with_reducible refine vc_skip ?_) | (with_reducible refine thenQ_x ?_) | (with_reducible refine thenQ_r ?_) | (with_reducible refine thenQ_n ?_) | (with_reducible refine blockQ_x rfl ?_) | (with_reducible refine blockQ_y rfl ?_) | (with_reducible refine blockQ_n ?_) | (with_reducible refine blockQ_r ?_) | (with_reducible refine vc_seq ?_) | (with_reducible refine vc_region ?_) | (with_reducible refine vc_block ?_) | (with_reducible refine vc_scope ?_) | (with_reducible refine opsVC_nil ?_)))
      exact ⟨id, c, F, hI.ve, hI.val, hI.b, by show m.length ≤ M.length; omega, hI.old, hI.clo⟩
end Go.Proofs.YtjanlnngeklhoabGreat
