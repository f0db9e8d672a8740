/- Products of pairs and convolutions, as the program reckons them. -/
import Derived.Test.YtegcfjfhpodlmaaHop1
set_option linter.unusedVariables false
set_option linter.unusedSimpArgs false
set_option maxRecDepth 100000
set_option maxHeartbeats 1000000
namespace Go.Proofs.Ytegcfjfhpodlmaa
open M

/-! ### products of tables of two vectors -/
/-- the product of the row a of F and the row b of G -/
def pw (p : Int) (T F G : Nat → Int) (a b : Nat) : Nat → Int := prodF p T (partF F 8 a) (partF G 8 b)
def pairN (p : Int) (T F G : Nat → Int) (a n q : Nat) : Int := sumN n fun b => vecT T a b (q / 8) * pw p T F G a b (q % 8)
def pairT (p : Int) (T F G : Nat → Int) (m n q : Nat) : Int := sumN m fun a => pairN p T F G a n q
def pairsF (p : Int) (T F G : Nat → Int) : Nat → Int := fun q => pairT p T F G 8 8 q % p

theorem pw_u8 {p : Int} (hp : 0 < p ∧ p < 256) (T F G : Nat → Int) (a b n : Nat) : isU8 n (pw p T F G a b) := fun q _ => modB hp
theorem mod_add (p a b : Int) : (a % p + b) % p = (a + b) % p := Int.emod_add_emod a p b

theorem productOfPairs_s (p n : Int) (U T F G : Nat → Int) (hp : 0 < p ∧ p < 256) (hT : isU8 512 T) (hF : isU8 64 F) (hG : isU8 64 G) :
    Spec Try.prog 99 [algV p n U T, .ints .u8 64 F, .ints .u8 64 G] [] (Ret (.ints .u8 64 (pairsF p T F G))) := by
  refine Spec.ret rfl (Spec.of_vc tabOK tabEq Try.func99 rfl (by kernel_rfl) rfl rfl ?_)
  (repeat (first | refine And.intro (by omega) ?_ | refine And.intro ⟨by omega, by omega⟩ ?_))
  refine LoopVC.of (fun j : Nat => j ≤ 8) (fun j => [(3, .ptr 0 [] 0 0), (5, .ptr 2 [] 0 0), (6, .ptr 3 [] 0 0), (7, .ptr 4 [] 0 0), (13, .ints .u8 64 F), (14, .int .i64 j)])
    (fun j => [some (algV p n U T, 522), none, some (.ints .u8 64 G, 64), some (.ints .u8 64 fun _ => 0, 64), some (.ints .u8 64 fun q => pairT p T F G j 8 q % p, 64)]) (fun j => 8 - j) 0 (by omega) ?_ ?_ ?_
  · exact And.intro rfl (And.intro rfl (And.intro rfl (And.intro rfl (And.intro (rowEq fun _ _ => rfl) (And.intro rfl trivial)))))
  · exact And.intro (And.intro (algR p n U T) rfl) (And.intro (And.intro (rowEq fun _ _ => rfl) rfl) (And.intro (And.intro (rowEq fun _ _ => rfl) rfl) (And.intro (And.intro (rowEq fun q _ => by simp [pairT, sumN]) rfl) trivial)))
  · intro j hj
    refine ifVC_split (fun h => ?_) (fun h => ?_)
    · have hltj := of_decide_eq_true h
      have hjdx : (j : Int).toNat = j := by omega
      have hFj : isU8 8 (partF F 8 j) := fun i hi => hF _ (by omega)
      (repeat (first | refine And.intro (by omega) ?_ | refine And.intro ⟨by omega, by omega⟩ ?_))
      have hq : allEq 8 (fun q => updR (fun _ => 0) 0 8 (fun q => F (q + (j : Int).toNat * 8)) (q + 0)) (fun _ => 0) = allEq 8 (partF F 8 j) (fun _ => 0) := allEq_congr (fun q hq => by rw [hjdx]; simp [updR, hq, partF]) fun _ _ => rfl
      refine ifVC_split (fun hz => ?_) (fun hz => ?_)
      · have hz : allEq 8 (partF F 8 j) (fun _ => 0) = true := by rw [← hq]; exact hz
        refine Exists.intro (j + 1) (And.intro (by omega) (And.intro (by omega) (And.intro (And.intro rfl (And.intro rfl (And.intro rfl (And.intro rfl (And.intro (rowEq fun _ _ => rfl) (And.intro (slotI (wrapS (by omega))) trivial)))))) ?_)))
        refine And.intro (And.intro (algR p n U T) rfl) (And.intro (And.intro (rowEq fun _ _ => rfl) rfl) (And.intro (And.intro (rowEq fun _ _ => rfl) rfl) (And.intro (And.intro (rowEq fun q hq => ?_) rfl) trivial)))
        show pairT p T F G j 8 q % p = (pairT p T F G j 8 q + pairN p T F G j 8 q) % p
        have : pairN p T F G j 8 q = 0 := by
          unfold pairN pw
          exact sumN_none 8 fun b hb => by rw [prodF_none fun i hi => allEq_get hz hi]; simp
        rw [this, Int.add_zero]
      · have hV : ∀ i, i < 8 → updR (fun _ => 0) 0 8 (fun q => F (q + (j : Int).toNat * 8)) (i + 0) = partF F 8 j i := fun i hi => by rw [hjdx]; simp [updR, hi, partF]
        (repeat (first | refine And.intro (by omega) ?_ | refine And.intro ⟨by omega, by omega⟩ ?_))
        refine And.intro trivial (Spec.mono (leftTable_s p n U T _ hp hT (fun i hi => by rw [hV i hi]; exact hFj i hi)) ?_)
        rintro r m ⟨rfl, rfl⟩
        (repeat (first | refine And.intro (by omega) ?_ | refine And.intro ⟨by omega, by omega⟩ ?_))
        have hL : ∀ q, leftT p T (fun i => updR (fun _ => 0) 0 8 (fun q => F (q + (j : Int).toNat * 8)) (i + 0)) q = leftT p T (partF F 8 j) q := fun q => by
          unfold leftT rightF
          rw [linS_congr 8 fun i hi => by rw [hV i hi]]
        refine LoopVC.of (fun l : Nat => l ≤ 8) (fun l => [(3, .ptr 0 [] 0 0), (5, .ptr 2 [] 0 0), (6, .ptr 3 [] 0 0), (7, .ptr 4 [] 0 0), (8, .int .i64 j), (10, .ptr 6 [] 0 0), (13, .ints .u8 64 F), (14, .int .i64 j), (24, .ints .u8 64 G), (25, .int .i64 l)])
          (fun l => [some (algV p n U T, 522), none, some (.ints .u8 64 G, 64), some (.ints .u8 64 fun _ => 0, 64), some (.ints .u8 64 fun q => (pairT p T F G j 8 q + pairN p T F G j l q) % p, 64), none, some (.ints .u8 64 (leftT p T (partF F 8 j)), 64)]) (fun l => 8 - l) 0 (by omega) ?_ ?_ ?_
        · exact And.intro rfl (And.intro rfl (And.intro rfl (And.intro rfl (And.intro rfl (And.intro rfl (And.intro (rowEq fun _ _ => rfl) (And.intro rfl (And.intro (rowEq fun _ _ => rfl) (And.intro rfl trivial)))))))))
        · exact And.intro (And.intro (algR p n U T) rfl) (And.intro (And.intro (rowEq fun _ _ => rfl) rfl) (And.intro (And.intro (rowEq fun _ _ => rfl) rfl) (And.intro (And.intro (rowEq fun q _ => by simp [pairN, sumN]) rfl) (And.intro (And.intro (rowEq fun q hq => (upd0 hq).trans (hL q)) rfl) trivial))))
        · intro l hl
          refine ifVC_split (fun h => ?_) (fun h => ?_)
          · have hltl := of_decide_eq_true h
            have hldx : (l : Int).toNat = l := by omega
            have hGl : isU8 8 (partF G 8 l) := fun i hi => hG _ (by omega)
            (repeat (first | refine And.intro (by omega) ?_ | refine And.intro ⟨by omega, by omega⟩ ?_))
            refine Exists.intro 15 (And.intro (by kernel_rfl) ?_)
            (repeat (first | refine And.intro (by omega) ?_ | refine And.intro ⟨by omega, by omega⟩ ?_))
            have hW : ∀ i, i < 8 → updR (fun _ => 0) 0 8 (fun q => G (q + (l : Int).toNat * 8)) (i + 0) = partF G 8 l i := fun i hi => by rw [hldx]; simp [updR, hi, partF]
            refine Exists.intro (.ints .u8 8 (pw p T F G j l)) (And.intro (And.intro rfl (And.intro rfl ?_)) ?_)
            · refine Spec.mono (apply_s p _ _ hp (fun q _ => modB hp) (fun i hi => by rw [hW i hi]; exact hGl i hi)) ?_
              rintro r m ⟨rfl, _⟩
              refine congrArg (SV.ints .u8 8) (funext fun y => ?_)
              show _ = linS (leftT p T (partF F 8 j)) (partF G 8 l) 8 y % p
              refine congrArg (· % p) (linS_congr 8 fun i hi => ?_)
              rw [hW i hi]
              rfl
            refine Exists.intro (.ints .u8 64 fun q => (pairT p T F G j 8 q + pairN p T F G j (l + 1) q) % p) (And.intro (And.intro rfl (And.intro rfl ?_)) ?_)
            · refine Spec.mono (addTensor_s p _ _ _ hp (fun q _ => ⟨Int.emod_nonneg _ (by omega), Int.emod_lt_of_pos _ hp.1⟩) (fun i hi => hT _ (by omega)) (pw_u8 hp T F G j l 8)) ?_
              rintro r m ⟨rfl, _⟩
              refine congrArg (SV.ints .u8 64) (funext fun q => ?_)
              unfold addTen
              rw [mod_add, Int.add_assoc]
              refine congrArg (fun z => (pairT p T F G j 8 q + (pairN p T F G j l q + z * pw p T F G j l (q % 8))) % p) ?_
              first
                | rfl
                | (show T _ = T _; congr 1; omega)
            (repeat (first | refine And.intro (by omega) ?_ | refine And.intro ⟨by omega, by omega⟩ ?_))
            refine Exists.intro (l + 1) (And.intro (by omega) (And.intro (by omega) (And.intro (And.intro rfl (And.intro rfl (And.intro rfl (And.intro rfl (And.intro rfl (And.intro rfl (And.intro (rowEq fun _ _ => rfl) (And.intro rfl (And.intro (rowEq fun _ _ => rfl) (And.intro (slotI (wrapS (by omega))) trivial)))))))))) ?_)))
            exact And.intro (And.intro (algR p n U T) rfl) (And.intro (And.intro (rowEq fun _ _ => rfl) rfl) (And.intro (And.intro (rowEq fun _ _ => rfl) rfl) (And.intro (And.intro (rowEq fun q hq => by show updR _ 0 64 _ q = _; simp [updR, hq]) rfl) (And.intro (And.intro (rowEq fun _ _ => rfl) rfl) trivial))))
          · have hge := of_decide_eq_false h
            obtain rfl : l = 8 := by omega
            refine Exists.intro (j + 1) (And.intro (by omega) (And.intro (by omega) (And.intro (And.intro rfl (And.intro rfl (And.intro rfl (And.intro rfl (And.intro (rowEq fun _ _ => rfl) (And.intro (slotI (wrapS (by omega))) trivial)))))) ?_)))
            exact And.intro (And.intro (algR p n U T) rfl) (And.intro (And.intro (rowEq fun _ _ => rfl) rfl) (And.intro (And.intro (rowEq fun _ _ => rfl) rfl) (And.intro (And.intro (rowEq fun q hq => rfl) rfl) trivial)))
    · have hge := of_decide_eq_false h
      obtain rfl : j = 8 := by omega
      (repeat (first | refine And.intro (by omega) ?_ | refine And.intro ⟨by omega, by omega⟩ ?_))
      refine rowEq fun q hq => ?_
      show updR _ 0 64 _ q = _
      simp [updR, hq, pairsF]

/-! ### convolutions -/
/-- the part of the convolution that the leg b gives at the row i -/
def cw (p : Int) (T C F G : Nat → Int) (i b : Nat) : Nat → Int := prodF p T (partF F 8 b) (fun y => linS G (vecT C i b) 8 y % p)
def convN (p : Int) (T C F G : Nat → Int) (i m y : Nat) : Int := sumN m fun b => cw p T C F G i b y
def convF (p : Int) (n : Nat) (T C F G : Nat → Int) : Nat → Int := fun q => if q / 8 < n then convN p T C F G (q / 8) n (q % 8) % p else 0

theorem convolution_s (p : Int) (n : Nat) (n' : Int) (Z C U T F G : Nat → Int) (hp : 0 < p ∧ p < 256) (hn : n ≤ 8) (hC : isU8 512 C) (hT : isU8 512 T) (hF : isU8 64 F) (hG : isU8 64 G) :
    Spec Try.prog 103 [algV p n Z C, algV p n' U T, .ints .u8 64 F, .ints .u8 64 G] [] (Ret (.ints .u8 64 (convF p n T C F G))) := by
  refine Spec.ret rfl (Spec.of_vc tabOK tabEq Try.func103 rfl (by kernel_rfl) rfl rfl ?_)
  (repeat (first | refine And.intro (by omega) ?_ | refine And.intro ⟨by omega, by omega⟩ ?_))
  refine LoopVC.of (fun j : Nat => j ≤ n) (fun j => [(4, .ptr 0 [] 0 0), (5, .ptr 1 [] 0 0), (6, .ptr 2 [] 0 0), (7, .ptr 3 [] 0 0), (8, .ptr 4 [] 0 0), (9, .ptr 5 [] 0 0), (15, .int .i64 n), (16, .int .i64 j)])
    (fun j => [some (algV p n Z C, 522), some (algV p n' U T, 522), some (.ints .u8 64 F, 64), some (.ints .u8 64 G, 64), some (.ints .u8 64 fun _ => 0, 64), some (.ints .u8 64 fun q => if q / 8 < n then convN p T C F G (q / 8) j (q % 8) % p else 0, 64)]) (fun j => n - j) 0 (by omega) ?_ ?_ ?_
  · exact (And.intro rfl (And.intro rfl (And.intro rfl (And.intro rfl (And.intro rfl (And.intro rfl (And.intro rfl (And.intro rfl (trivial)))))))))
  · exact And.intro (And.intro (algR p n Z C) rfl) (And.intro (And.intro (algR p n' U T) rfl) (And.intro (And.intro (rowEq fun _ _ => rfl) rfl) (And.intro (And.intro (rowEq fun _ _ => rfl) rfl) (And.intro (And.intro (rowEq fun _ _ => rfl) rfl) (And.intro (And.intro (rowEq fun q _ => by simp [convN, sumN]) rfl) trivial)))))
  · intro j hj
    refine ifVC_split (fun h => ?_) (fun h => ?_)
    · have hltj := of_decide_eq_true h
      have hjdx : (j : Int).toNat = j := by omega
      have hFj : isU8 8 (partF F 8 j) := fun i hi => hF _ (by omega)
      refine Exists.intro 6 (And.intro (by kernel_rfl) ?_)
      (repeat (first | refine And.intro (by omega) ?_ | refine And.intro ⟨by omega, by omega⟩ ?_))
      refine Exists.intro (.ints .u8 64 (leftT p T (partF F 8 j))) (And.intro (And.intro rfl (And.intro rfl ?_)) ?_)
      · refine Spec.mono (leftTable_s p n' U T _ hp hT (fun i hi => hF _ (by omega))) ?_
        rintro r m ⟨rfl, _⟩
        rw [hjdx]
        rfl
      (repeat (first | refine And.intro (by omega) ?_ | refine And.intro ⟨by omega, by omega⟩ ?_))
      refine LoopVC.of (fun i : Nat => i ≤ n) (fun i => [(4, .ptr 0 [] 0 0), (5, .ptr 1 [] 0 0), (6, .ptr 2 [] 0 0), (7, .ptr 3 [] 0 0), (8, .ptr 4 [] 0 0), (9, .ptr 5 [] 0 0), (10, .int .i64 j), (11, .ptr 6 [] 0 0), (15, .int .i64 n), (16, .int .i64 j), (25, .int .i64 n), (26, .int .i64 i)])
        (fun i => [some (algV p n Z C, 522), some (algV p n' U T, 522), some (.ints .u8 64 F, 64), some (.ints .u8 64 G, 64), some (.ints .u8 64 fun _ => 0, 64), some (.ints .u8 64 fun q => if q / 8 < i then convN p T C F G (q / 8) (j + 1) (q % 8) % p else if q / 8 < n then convN p T C F G (q / 8) j (q % 8) % p else 0, 64), some (.ints .u8 64 (leftT p T (partF F 8 j)), 64)]) (fun i => n - i) 0 (by omega) ?_ ?_ ?_
      · exact (And.intro rfl (And.intro rfl (And.intro rfl (And.intro rfl (And.intro rfl (And.intro rfl (And.intro rfl (And.intro rfl (And.intro rfl (And.intro rfl (And.intro rfl (And.intro rfl (trivial)))))))))))))
      · exact And.intro (And.intro (algR p n Z C) rfl) (And.intro (And.intro (algR p n' U T) rfl) (And.intro (And.intro (rowEq fun _ _ => rfl) rfl) (And.intro (And.intro (rowEq fun _ _ => rfl) rfl) (And.intro (And.intro (rowEq fun _ _ => rfl) rfl) (And.intro (And.intro (rowEq fun q _ => by simp) rfl) (And.intro (And.intro (rowEq fun q hq => by first | rfl | (show updR _ 0 64 _ q = _; simp [updR, hq])) rfl) trivial))))))
      · intro i hi
        refine ifVC_split (fun h => ?_) (fun h => ?_)
        · have hlti := of_decide_eq_true h
          have hidx : (i : Int).toNat = i := by omega
          refine Exists.intro 11 (And.intro (by kernel_rfl) ?_)
          (repeat (first | refine And.intro (by omega) ?_ | refine And.intro ⟨by omega, by omega⟩ ?_))
          refine Exists.intro (.ints .u8 8 fun y => linS G (vecT C i j) 8 y % p) (And.intro (And.intro rfl (And.intro rfl ?_)) ?_)
          · refine Spec.mono (apply_s p _ _ hp (fun q hq => hG _ (by omega)) (fun q hq => hC _ (by omega))) ?_
            rintro r m ⟨rfl, _⟩
            refine congrArg (SV.ints .u8 8) (funext fun y => congrArg (· % p) (linS_congr 8 fun a ha => ?_))
            rw [hidx, hjdx]
            rfl
          have hout : isU8 64 fun q => if q / 8 < i then convN p T C F G (q / 8) (j + 1) (q % 8) % p else if q / 8 < n then convN p T C F G (q / 8) j (q % 8) % p else 0 := fun q hq => by
            dsimp only
            split
            · exact modB hp
            · split
              · exact modB hp
              · omega
          (repeat (first | refine And.intro (by omega) ?_ | refine And.intro ⟨by omega, by omega⟩ ?_))
          refine Exists.intro 13 (And.intro (by kernel_rfl) ?_)
          (repeat (first | refine And.intro (by omega) ?_ | refine And.intro ⟨by omega, by omega⟩ ?_))
          refine Exists.intro (.ints .u8 8 (cw p T C F G i j)) (And.intro (And.intro rfl (And.intro rfl ?_)) ?_)
          · refine Spec.mono (apply_s p _ _ hp (fun q hq => modB hp) (fun q hq => by simp only [updR]; rw [if_pos (by omega)]; exact modB hp)) ?_
            rintro r m ⟨rfl, _⟩
            refine congrArg (SV.ints .u8 8) (funext fun y => congrArg (· % p) (linS_congr 8 fun a ha => ?_))
            have e : updR (fun _ => 0) 0 8 (fun y => linS G (vecT C i j) 8 y % p) (a + 0) = linS G (vecT C i j) 8 a % p := by simp [updR, ha]
            rw [e]
            rfl
          refine Exists.intro (.ints .u8 8 _) (And.intro (And.intro rfl (And.intro rfl (Spec.mono (addMultiple_s p _ _ _ hp (by omega) (fun q hq => hout _ (by omega)) (fun q _ => modB hp)) fun r m h => h.1))) ?_)
          (repeat (first | refine And.intro (by omega) ?_ | refine And.intro ⟨by omega, by omega⟩ ?_))
          refine Exists.intro (i + 1) (And.intro (by omega) (And.intro (by omega) (And.intro (And.intro rfl (And.intro rfl (And.intro rfl (And.intro rfl (And.intro rfl (And.intro rfl (And.intro rfl (And.intro rfl (And.intro rfl (And.intro rfl (And.intro rfl (And.intro (slotI (wrapS (by omega))) trivial)))))))))))) ?_)))
          refine And.intro (And.intro (algR p n Z C) rfl) (And.intro (And.intro (algR p n' U T) rfl) (And.intro (And.intro (rowEq fun _ _ => rfl) rfl) (And.intro (And.intro (rowEq fun _ _ => rfl) rfl) (And.intro (And.intro (rowEq fun _ _ => rfl) rfl) (And.intro (And.intro (rowEq fun q hq => ?_) rfl) (And.intro (And.intro (rowEq fun _ _ => rfl) rfl) trivial))))))
          show updR _ ((i : Int).toNat * 8 + 0) 8 _ q = _
          unfold updR
          rw [hidx]
          by_cases h1 : i * 8 + 0 ≤ q ∧ q < i * 8 + 0 + 8
          · rw [if_pos h1, if_pos (by omega)]
            unfold addM
            dsimp only
            rw [show q - (i * 8 + 0) + (i * 8 + 0) = q by omega, if_neg (show ¬ q / 8 < i by omega), if_pos (show q / 8 < n by omega), mod_add, Int.one_mul]
            rw [show q / 8 = i by omega, show q - (i * 8 + 0) = q % 8 by omega]
            rfl
          · rw [if_neg h1]
            dsimp only
            by_cases h2 : q / 8 < i
            · rw [if_pos h2, if_pos (show q / 8 < i + 1 by omega)]
            · rw [if_neg h2, if_neg (show ¬ q / 8 < i + 1 by omega)]
        · have hge := of_decide_eq_false h
          obtain rfl : i = n := by omega
          refine Exists.intro (j + 1) (And.intro (by omega) (And.intro (by omega) (And.intro (And.intro rfl (And.intro rfl (And.intro rfl (And.intro rfl (And.intro rfl (And.intro rfl (And.intro rfl (And.intro (slotI (wrapS (by omega))) trivial)))))))) ?_)))
          refine And.intro (And.intro (algR p i Z C) rfl) (And.intro (And.intro (algR p n' U T) rfl) (And.intro (And.intro (rowEq fun _ _ => rfl) rfl) (And.intro (And.intro (rowEq fun _ _ => rfl) rfl) (And.intro (And.intro (rowEq fun _ _ => rfl) rfl) (And.intro (And.intro (rowEq fun q hq => ?_) rfl) trivial)))))
          by_cases h2 : q / 8 < i
          · rw [if_pos h2, if_pos h2]
          · rw [if_neg h2, if_neg h2, if_neg h2]
    · have hge := of_decide_eq_false h
      obtain rfl : j = n := by omega
      (repeat (first | refine And.intro (by omega) ?_ | refine And.intro ⟨by omega, by omega⟩ ?_))
      refine rowEq fun q hq => ?_
      show updR _ 0 64 _ q = _
      simp [updR, hq, convF]
end Go.Proofs.Ytegcfjfhpodlmaa
