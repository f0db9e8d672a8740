/- All group-like vectors: the reference's side, and the law. -/
import Derived.Test.YtmhebgcnloomaaaGrp2
import Derived.Test.YtmhebgcnloomaaaFirst
set_option linter.unusedVariables false
set_option maxRecDepth 100000
set_option maxHeartbeats 4000000
namespace Go.Proofs.Ytmhebgcnloomaaa
open M

theorem l02Groups_s (P n : Nat) (U C : Nat → Int) (hP : 2 ≤ P ∧ P ≤ 31) (hn : 1 ≤ n ∧ n ≤ 8) (h0 : P ^ n ≤ 5000) (hV : Valid P n U (dualF C)) (hU : isU8 8 U) (hC : isU8 512 C) :
    Spec Try.prog 30 [algV P n U C] [] (fun r m => ∃ id cap, cntG (GG P n U C) (P ^ n) ≤ cap ∧ r = .sl id 0 (cntG (GG P n U C) (P ^ n)) cap ∧ blockOf m id = some (.ints .u8 (cntG (GG P n U C) (P ^ n) * 8) (conG (GG P n U C) (digF P n) (P ^ n)), cap * 8)) := by
  refine (Spec.of_vc tabOK tabEq Try.func30 rfl (by kernel_rfl) rfl rfl ?_)
  have hcs : Spec Try.prog 29 [.int .i64 P, .int .i64 n] [] (Ret (.int .i64 ((P ^ n : Nat) : Int))) := by
    have := l02Count_s P n hP.2 (by omega) hn.2
    rwa [if_neg (by omega)] at this
  refine And.intro trivial (Spec.mono hcs ?_)
  rintro r m ⟨rfl, rfl⟩
  refine LoopVC.of (fun x : Nat × Nat => x.1 ≤ P ^ n ∧ cntG (GG P n U C) x.1 ≤ x.2) (fun x => [(1, .ptr 0 [] 0 0), (3, .sl 1 0 (cntG (GG P n U C) x.1) x.2), (4, .int .i64 ((P ^ n : Nat) : Int)), (5, .int .i64 x.1)])
    (fun x => [some (algV P n U C, 522), some (.ints .u8 (cntG (GG P n U C) x.1 * 8) (conG (GG P n U C) (digF P n) x.1), x.2 * 8)]) (fun x => P ^ n - x.1) (0, 0) ⟨by omega, Nat.le_refl _⟩ ?_ ?_ ?_
  · exact (And.intro rfl (And.intro rfl (And.intro rfl (And.intro rfl (trivial)))))
  · exact And.intro (And.intro (algR P n U C) rfl) (And.intro (And.intro (And.intro (And.intro rfl rfl) fun j hj => absurd hj (Nat.not_lt_zero _)) rfl) trivial)
  · rintro ⟨m, cap⟩ ⟨hm, ho⟩
    have ho : cntG (GG P n U C) m ≤ cap := ho
    have hm : m ≤ P ^ n := hm
    have hle := cntG_le (GG P n U C) m
    have b1 : (cntG (GG P n U C) m + 1) * 8 ≤ 140737488355328 := by omega
    have b2 : cntG (GG P n U C) m + 1 ≤ 4611686018427387904 := by omega
    refine ifVC_split (fun hh => ?_) (fun hh => ?_)
    · have hlt : m < P ^ n := by
        have hh := of_decide_eq_true hh
        have hh : ((m : Nat) : Int) < ((P ^ n : Nat) : Int) := hh
        omega
      (repeat (first | refine And.intro (by omega) ?_ | refine And.intro ⟨by omega, by omega⟩ ?_))
      refine LoopVC.of (fun k : Nat => k ≤ n) (fun k => [(1, .ptr 0 [] 0 0), (3, .sl 1 0 (cntG (GG P n U C) m) cap), (4, .int .i64 ((P ^ n : Nat) : Int)), (5, .int .i64 m), (6, .ptr 2 [] 0 0), (7, .int .i64 ((m / P ^ k : Nat) : Int)), (8, .int .i64 ((n : Int) - 1 - k))])
        (fun k => [some (algV P n U C, 522), some (.ints .u8 (cntG (GG P n U C) m * 8) (conG (GG P n U C) (digF P n) m), cap * 8), some (.ints .u8 8 (fun j => if n - k ≤ j then digF P n m j else 0), 8)]) (fun k => n - k) 0 (by omega) ?_ ?_ ?_
      · exact And.intro rfl (And.intro rfl (And.intro rfl (And.intro rfl (And.intro rfl (And.intro (slotI (by simp)) (And.intro (slotI (by rw [wrapI (by omega)]; omega)) trivial))))))
      · refine And.intro (And.intro (algR P n U C) rfl) (And.intro (And.intro (rowEq fun _ _ => rfl) rfl) (And.intro (And.intro (rowEq fun j hj => ?_) rfl) trivial))
        show updR _ 0 8 _ j = if n - 0 ≤ j then _ else _
        unfold updR
        rw [if_pos (by omega)]
        split
        · rw [digF_out (by omega)]
        · rfl
      · intro k hk
        refine ifVC_split (fun h => ?_) (fun h => ?_)
        · have hge := of_decide_eq_true h
          have hkn : k < n := by omega
          have hidx : ((n : Int) - 1 - k).toNat * 1 + 0 = n - 1 - k := by omega
          have hpne : (P : Int) ≠ 0 := by omega
          have hmod := Nat.mod_lt (m / P ^ k) (show 0 < P by omega)
          have hdiv : m / P ^ k / P = m / P ^ (k + 1) := by rw [Nat.div_div_eq_div_mul, ← Nat.pow_succ]
          have hsm : m / P ^ k / P ≤ m := Nat.le_trans (Nat.div_le_self _ _) (Nat.div_le_self _ _)
          (repeat (first | refine And.intro (by omega) ?_ | refine And.intro ⟨by omega, by omega⟩ ?_))
          refine Exists.intro (k + 1) (And.intro (by omega) (And.intro (by omega) (And.intro (And.intro rfl (And.intro rfl (And.intro rfl (And.intro rfl (And.intro rfl (And.intro (slotI ?_) (And.intro (slotI (by rw [wrapI (by omega)]; omega)) trivial))))))) ?_)))
          · show IntKind.i64.wrap ((((m / P ^ k : Nat) : Int)).tdiv (P : Int)) = ((m / P ^ (k + 1) : Nat) : Int)
            rw [← hdiv]
            have : (((m / P ^ k : Nat) : Int)).tdiv (P : Int) = ((m / P ^ k / P : Nat) : Int) := rfl
            have hq : ∀ q : Nat, q ≤ m → -9223372036854775808 ≤ (q : Int) ∧ (q : Int) ≤ 9223372036854775807 := fun q hq => by omega
            exact wrapI (x := ((m / P ^ k / P : Nat) : Int)) (hq _ hsm)
          · refine And.intro (And.intro (algR P n U C) rfl) (And.intro (And.intro (rowEq fun _ _ => rfl) rfl) (And.intro (And.intro (rowEq fun j hj => ?_) rfl) trivial))
            show upd1 _ _ _ j = if n - (k + 1) ≤ j then _ else _
            unfold upd1
            dsimp only
            by_cases hj1 : j = n - 1 - k
            · subst hj1
              rw [if_pos hidx.symm, if_pos (by omega)]
              have : (((m / P ^ k : Nat) : Int)).tmod (P : Int) = ((m / P ^ k % P : Nat) : Int) := rfl
              rw [this, wrapB (by omega)]
              unfold digF
              rw [if_pos (by omega), show n - 1 - (n - 1 - k) = k by omega]
            · rw [if_neg (by omega)]
              by_cases hj2 : n - k ≤ j
              · rw [if_pos hj2, if_pos (by omega)]
              · rw [if_neg hj2, if_neg (by omega)]
        · have hge := of_decide_eq_false h
          obtain rfl : k = n := by omega
          have hv : (fun j => if k - k ≤ j + 0 then digF P k m (j + 0) else 0) = digF P k m := funext fun j => by
            show (if k - k ≤ j + 0 then digF P k m (j + 0) else 0) = _
            rw [if_pos (by omega)]; rfl
          have hcn : Spec Try.prog 22 [algV P k U C, .ints .u8 8 (fun j => if k - k ≤ j + 0 then digF P k m (j + 0) else 0)] [] (Ret (.int .i64 (cnt P U (digF P k m)))) := by
            rw [hv]
            exact l02Counit_s P k U C (digF P k m) hV.hp hU (digF_u8 k m (by omega))
          have hgr : Spec Try.prog 26 [algV P k U C, .ints .u8 8 (fun j => if k - k ≤ j + 0 then digF P k m (j + 0) else 0)] [] (Ret (.bool (GG P k U C m))) := by
            rw [hv]
            exact l02Group_s P k U C (digF P k m) hV hU hC (digF_u8 k m (by omega)) fun i h1 _ => digF_out h1
          have stay : GG P k U C m = false → ∀ s' m', subL [(1, .ptr 0 [] 0 0), (3, .sl 1 0 (cntG (GG P k U C) m) cap), (4, .int .i64 ((P ^ k : Nat) : Int)), (5, .int .i64 (IntKind.i64.wrap ((m : Int) + 1)))] s' → memCut m' [some (algV P k U C, 522), some (.ints .u8 (cntG (GG P k U C) m * 8) (conG (GG P k U C) (digF P k) m), cap * 8)] →
              ∃ x' : Nat × Nat, (x'.1 ≤ P ^ k ∧ cntG (GG P k U C) x'.1 ≤ x'.2) ∧ P ^ k - x'.1 < P ^ k - m ∧ subL [(1, .ptr 0 [] 0 0), (3, .sl 1 0 (cntG (GG P k U C) x'.1) x'.2), (4, .int .i64 ((P ^ k : Nat) : Int)), (5, .int .i64 x'.1)] s' ∧
                memCut m' [some (algV P k U C, 522), some (.ints .u8 (cntG (GG P k U C) x'.1 * 8) (conG (GG P k U C) (digF P k) x'.1), x'.2 * 8)] := fun hg s' m' hs' hm' => by
            refine ⟨(m + 1, cap), ⟨hlt, ?_⟩, show P ^ k - (m + 1) < P ^ k - m by omega, ?_, ?_⟩
            · show cntG (GG P k U C) (m + 1) ≤ cap
              rw [cntG_no hg]; exact ho
            · show subL [_, (3, .sl 1 0 (cntG (GG P k U C) (m + 1)) cap), _, (5, .int .i64 ((m + 1 : Nat) : Int))] s'
              rw [cntG_no hg, ← wrapS (i := m) (by omega)]; exact hs'
            · show memCut m' [_, some (.ints .u8 (cntG (GG P k U C) (m + 1) * 8) (conG (GG P k U C) (digF P k) (m + 1)), cap * 8)]
              rw [cntG_no hg, conG_no hg]; exact hm'
          (repeat (first | refine And.intro (by omega) ?_ | refine And.intro ⟨by omega, by omega⟩ ?_))
          refine And.intro trivial (Spec.mono hcn ?_)
          rintro r m' ⟨rfl, rfl⟩
          refine ifVC_split (fun hb => ?_) (fun hb => ?_)
          · (repeat (first | refine And.intro (by omega) ?_ | refine And.intro ⟨by omega, by omega⟩ ?_))
            refine And.intro trivial (Spec.mono hgr ?_)
            rintro r m' ⟨rfl, rfl⟩
            refine ifVC_split (fun hg => ?_) (fun hg => ?_)
            · (repeat (first | refine And.intro (by omega) ?_ | refine And.intro ⟨by omega, by omega⟩ ?_))
              refine Or.inl (And.intro ⟨Nat.le_refl _, rfl, ho, b1, b2⟩ (fun cap' hcap => ?_))
              have hcap : cntG (GG P k U C) m + 1 ≤ cap' := hcap
              have e1 : cntG (GG P k U C) (m + 1) = cntG (GG P k U C) m + 1 := cntG_yes hg
              refine Exists.intro (m + 1, cap') (And.intro ⟨hlt, show cntG (GG P k U C) (m + 1) ≤ cap' by omega⟩ (And.intro (show P ^ k - (m + 1) < P ^ k - m by omega) (And.intro (And.intro rfl (And.intro ?_ (And.intro rfl (And.intro (slotI (wrapS (by omega))) trivial)))) ?_)))
              · show SV.eqv (.sl 1 0 (cntG (GG P k U C) m + 1) cap') (.sl 1 0 (cntG (GG P k U C) (m + 1)) cap')
                rw [e1]; rfl
              · refine And.intro (And.intro (algR P k U C) rfl) (And.intro (And.intro (And.intro (And.intro rfl ?_) fun j hj => ?_) rfl) trivial)
                · show (cntG (GG P k U C) m + 1) * 8 = cntG (GG P k U C) (m + 1) * 8
                  rw [e1]
                · have hj : j < (cntG (GG P k U C) m + 1) * 8 := hj
                  rw [conG_yes hg]
                  show appF _ (cntG (GG P k U C) m * 8) 0 (updR _ 0 8 (fun j => if k - k ≤ j + 0 then digF P k m (j + 0) else 0)) j = _
                  unfold appF
                  by_cases hj2 : j < cntG (GG P k U C) m * 8
                  · rw [if_pos hj2, if_pos hj2]
                  · rw [if_neg hj2, if_neg hj2]
                    unfold updR
                    rw [if_pos (by omega)]
                    dsimp only
                    rw [if_pos (by omega)]
                    rfl
            · exact stay hg _ _ (And.intro rfl (And.intro rfl (And.intro rfl (And.intro rfl (trivial))))) (And.intro (And.intro (algR P k U C) rfl) (And.intro (And.intro (rowEq fun _ _ => rfl) rfl) trivial))
          · have hg : GG P k U C m = false := by unfold GG groupB; rw [hb]; rfl
            exact stay hg _ _ (And.intro rfl (And.intro rfl (And.intro rfl (And.intro rfl (trivial))))) (And.intro (And.intro (algR P k U C) rfl) (And.intro (And.intro (rowEq fun _ _ => rfl) rfl) trivial))
    · have hge : ¬ ((m : Nat) : Int) < ((P ^ n : Nat) : Int) := of_decide_eq_false hh
      obtain rfl : m = P ^ n := by omega
      exact ⟨1, cap, ho, rfl, rfl⟩

/-- the same, where the new list is the one block -/
def GrpQ (hasNil : Bool) (p n : Int) (U C : Nat → Int) (r : SV) (m : Mem) : Prop :=
  (coB p n U C = false ∧ r = .tcons .nilsl (.tcons (.int .i64 1) .tnil) ∧ m = []) ∨
  (coB p n U C = true ∧ 5000 < p.toNat ^ n.toNat ∧ r = .tcons .nilsl (.tcons (.int .i64 3) .tnil) ∧ m = []) ∨
  (hasNil = true ∧ coB p n U C = true ∧ p.toNat ^ n.toNat ≤ 5000 ∧ cntG (GG p.toNat n.toNat U C) (p.toNat ^ n.toNat) = 0 ∧ r = .tcons .nilsl (.tcons (.int .i64 0) .tnil) ∧ m = []) ∨
  (coB p n U C = true ∧ p.toNat ^ n.toNat ≤ 5000 ∧ ∃ N cap g, N = cntG (GG p.toNat n.toNat U C) (p.toNat ^ n.toNat) ∧ (hasNil = true → 0 < N) ∧
    (∀ j, j < N * 8 → g j = conG (GG p.toNat n.toNat U C) (digF p.toNat n.toNat) (p.toNat ^ n.toNat) j) ∧ r = .tcons (.sl 0 0 N cap) (.tcons (.int .i64 0) .tnil) ∧ m = [some (.ints .u8 (N * 8) g, cap * 8)])
theorem GrpAns.one {P : Program} {f : Nat} {args : List SV} {b : Bool} {p n : Int} {U C : Nat → Int} (h : Spec P f args [] (GrpAns b p n U C)) : Spec P f args [] (GrpQ b p n U C) := by
  refine Spec.single h ?_
  rintro r m' (⟨h1, rfl⟩ | ⟨h1, h2, rfl⟩ | ⟨h1, h2, h3, h4, rfl⟩ | ⟨h1, h2, id, cap, g, h3, h4, rfl, hb⟩)
  · exact .inl ⟨.inl ⟨h1, rfl, rfl⟩, rfl⟩
  · exact .inl ⟨.inr (.inl ⟨h1, h2, rfl, rfl⟩), rfl⟩
  · exact .inl ⟨.inr (.inr (.inl ⟨h1, h2, h3, h4, rfl, rfl⟩)), rfl⟩
  · exact .inr ⟨id, _, _, hb, rfl, by simp [SV.ids], .inr (.inr (.inr ⟨h1, h2, _, cap, g, rfl, h3, h4, rfl, rfl⟩))⟩
theorem implGroupsQ_s (p n : Int) (U C : Nat → Int) (hU : isU8 8 U) (hC : isU8 512 C) : Spec Try.prog 14 [algV p n U C] [] (GrpQ true p n U C) := GrpAns.one (implGroups_s p n U C hU hC)

theorem specGroups_s (p n : Int) (U C : Nat → Int) (hU : isU8 8 U) (hC : isU8 512 C) : Spec Try.prog 13 [algV p n U C] [] (GrpAns false p n U C) := by
  refine (Spec.of_vc tabOK tabEq Try.func13 rfl (by kernel_rfl) rfl rfl ?_)
  refine And.intro trivial (Spec.mono (l02Is_s p n U C hU hC) ?_)
  rintro r m ⟨rfl, rfl⟩
  refine ifVC_split (fun hs => ?_) (fun hs => ?_)
  · exact GrpAns.bad (by simpa using hs)
  have hs : coB p n U C = true := by simpa using hs
  obtain ⟨P, rfl, hP, hn⟩ := co_field hs
  obtain ⟨n, rfl, hV⟩ := coB_valid hU hC hs
  refine And.intro trivial (Spec.mono (l02Count_s P n hP.2 (by omega) (by omega)) ?_)
  rintro r m ⟨rfl, rfl⟩
  refine ifVC_split (fun h0 => ?_) (fun h0 => ?_)
  · refine GrpAns.limit hs ?_
    have h0 := of_decide_eq_true h0
    have h0 : (if (5001 : Int) < ((P ^ n : Nat) : Int) then (5001 : Int) else ((P ^ n : Nat) : Int)) > 5000 := h0
    generalize P ^ n = q at *
    split at h0 <;> omega
  have h0 : P ^ n ≤ 5000 := by
    have h0 := of_decide_eq_false h0
    have h0 : ¬ (if (5001 : Int) < ((P ^ n : Nat) : Int) then (5001 : Int) else ((P ^ n : Nat) : Int)) > 5000 := h0
    generalize P ^ n = q at *
    split at h0 <;> omega
  refine And.intro trivial (Spec.mono (l02Groups_s P n U C hP (by omega) h0 hV hU hC) ?_)
  rintro r m ⟨id, cap, hle, rfl, hb⟩
  exact GrpAns.some hs h0 (by simp) (fun _ _ => rfl) (back_new [some (algV P n U C, 522)] m hb)
theorem specGroupsQ_s (p n : Int) (U C : Nat → Int) (hU : isU8 8 U) (hC : isU8 512 C) : Spec Try.prog 13 [algV p n U C] [] (GrpQ false p n U C) := GrpAns.one (specGroups_s p n U C hU hC)

/-- lists of vectors and their code, twice made alike, are held apart -/
theorem lawGroups_c (p n : Int) (U C : Nat → Int) (hU : isU8 8 U) (hC : isU8 512 C) : Spec Try.prog 5 [algV p n U C] [] (Ret (.bool true)) := by
  refine Spec.ret rfl (Spec.of_vc tabOK tabEq Try.func5 rfl (by kernel_rfl) rfl rfl ?_)
  refine And.intro trivial (Spec.mono (toCoalgebra_s p n U C) ?_)
  rintro r m ⟨rfl, rfl⟩
  refine And.intro trivial (Spec.mono (specGroupsQ_s p n U C hU hC) ?_)
  rintro r m (⟨h1, rfl, rfl⟩ | ⟨h1, h2, rfl, rfl⟩ | ⟨h1, _⟩ | ⟨h1, h2, N, c0, g0, hN, _, hg0, rfl, rfl⟩)
  · refine And.intro trivial (Spec.mono (toCoalgebra_s p n U C) ?_)
    rintro r m ⟨rfl, rfl⟩
    refine And.intro trivial (Spec.mono (implGroupsQ_s p n U C hU hC) ?_)
    rintro r m (⟨_, rfl, rfl⟩ | ⟨h1', _⟩ | ⟨_, h1', _⟩ | ⟨h1', _⟩)
    rotate_left
    · rw [h1] at h1'; cases h1'
    · rw [h1] at h1'; cases h1'
    · rw [h1] at h1'; cases h1'
    refine And.intro trivial (Spec.mono eqVecsNil_s ?_)
    rintro r m ⟨rfl, rfl⟩
    refine And.intro trivial (Spec.mono (markVecsNil_s 101) ?_)
    rintro r m ⟨rfl, rfl⟩
    refine And.intro trivial (Spec.mono (heldVecsNil_s 101) ?_)
    rintro r m ⟨rfl, rfl⟩
    refine And.intro trivial (Spec.mono (toCoalgebra_s p n U C) ?_)
    rintro r m ⟨rfl, rfl⟩
    refine And.intro trivial (Spec.mono (implGroupsQ_s p n U C hU hC) ?_)
    rintro r m (⟨_, rfl, rfl⟩ | ⟨h1', _⟩ | ⟨_, h1', _⟩ | ⟨h1', _⟩)
    rotate_left
    · rw [h1] at h1'; cases h1'
    · rw [h1] at h1'; cases h1'
    · rw [h1] at h1'; cases h1'
    refine And.intro trivial (Spec.mono eqVecsNil_s ?_)
    rintro r m ⟨rfl, rfl⟩
    refine And.intro trivial (Spec.mono (heldVecsNil_s 101) ?_)
    rintro r m ⟨rfl, rfl⟩
    exact boolEq rfl
  · refine And.intro trivial (Spec.mono (toCoalgebra_s p n U C) ?_)
    rintro r m ⟨rfl, rfl⟩
    refine And.intro trivial (Spec.mono (implGroupsQ_s p n U C hU hC) ?_)
    rintro r m (⟨h1', _⟩ | ⟨_, _, rfl, rfl⟩ | ⟨_, _, h1', _⟩ | ⟨_, h1', _⟩)
    · rw [h1] at h1'; cases h1'
    rotate_left
    · omega
    · omega
    refine And.intro trivial (Spec.mono eqVecsNil_s ?_)
    rintro r m ⟨rfl, rfl⟩
    refine And.intro trivial (Spec.mono (markVecsNil_s 101) ?_)
    rintro r m ⟨rfl, rfl⟩
    refine And.intro trivial (Spec.mono (heldVecsNil_s 101) ?_)
    rintro r m ⟨rfl, rfl⟩
    refine And.intro trivial (Spec.mono (toCoalgebra_s p n U C) ?_)
    rintro r m ⟨rfl, rfl⟩
    refine And.intro trivial (Spec.mono (implGroupsQ_s p n U C hU hC) ?_)
    rintro r m (⟨h1', _⟩ | ⟨_, _, rfl, rfl⟩ | ⟨_, _, h1', _⟩ | ⟨_, h1', _⟩)
    · rw [h1] at h1'; cases h1'
    rotate_left
    · omega
    · omega
    refine And.intro trivial (Spec.mono eqVecsNil_s ?_)
    rintro r m ⟨rfl, rfl⟩
    refine And.intro trivial (Spec.mono (heldVecsNil_s 101) ?_)
    rintro r m ⟨rfl, rfl⟩
    exact boolEq rfl
  · cases h1
  · have hN5 : N ≤ 5000 := by have := cntG_le (GG p.toNat n.toNat U C) (p.toNat ^ n.toNat); omega
    refine And.intro trivial (Spec.mono (toCoalgebra_s p n U C) ?_)
    rintro r m ⟨rfl, rfl⟩
    change opsVC _ _ _ _ _ _ [some (algV p n U C, 522), some (.ints .u8 (N * 8) g0, c0 * 8)] _
    refine And.intro trivial (Spec.mono (implGroupsQ_s p n U C hU hC) ?_)
    rintro r m (⟨h1', _⟩ | ⟨_, h1', _⟩ | ⟨_, _, _, hz, rfl, rfl⟩ | ⟨_, _, N1, c1, g1, hN1, hp1, hg1, rfl, rfl⟩)
    · rw [h1] at h1'; cases h1'
    · omega
    · rw [hz] at hN
      subst hN
      change opsVC _ _ _ _ _ _ [some (algV p n U C, 522), some (.ints .u8 (0 * 8) g0, c0 * 8)] _
      refine And.intro (And.intro rfl trivial) (Spec.mono (eqVecsEmpty_s c0 (c0 * 8) g0) ?_)
      rintro r m ⟨rfl, rfl⟩
      change opsVC _ _ _ _ _ _ [some (algV p n U C, 522), some (.ints .u8 (0 * 8) g0, c0 * 8)] _
      refine And.intro trivial (Spec.mono (markVecsNil_s 101) ?_)
      rintro r m ⟨rfl, rfl⟩
      refine And.intro trivial (Spec.mono (heldVecsNil_s 101) ?_)
      rintro r m ⟨rfl, rfl⟩
      refine And.intro trivial (Spec.mono (toCoalgebra_s p n U C) ?_)
      rintro r m ⟨rfl, rfl⟩
      change opsVC _ _ _ _ _ _ [some (algV p n U C, 522), some (.ints .u8 (0 * 8) g0, c0 * 8)] _
      refine And.intro trivial (Spec.mono (implGroupsQ_s p n U C hU hC) ?_)
      rintro r m (⟨h1', _⟩ | ⟨_, h1', _⟩ | ⟨_, _, _, _, rfl, rfl⟩ | ⟨_, _, N1, c1, g1, hN1, hp1, hg1, rfl, rfl⟩)
      · rw [h1] at h1'; cases h1'
      · omega
      rotate_left
      · have := hp1 rfl; omega
      change opsVC _ _ _ _ _ _ [some (algV p n U C, 522), some (.ints .u8 (0 * 8) g0, c0 * 8)] _
      refine And.intro (And.intro rfl trivial) (Spec.mono (eqVecsEmpty_s c0 (c0 * 8) g0) ?_)
      rintro r m ⟨rfl, rfl⟩
      change opsVC _ _ _ _ _ _ [some (algV p n U C, 522), some (.ints .u8 (0 * 8) g0, c0 * 8)] _
      refine And.intro trivial (Spec.mono (heldVecsNil_s 101) ?_)
      rintro r m ⟨rfl, rfl⟩
      exact boolEq rfl
    obtain rfl : N1 = N := by rw [hN1, hN]
    change opsVC _ _ _ _ _ _ [some (algV p n U C, 522), some (.ints .u8 (N1 * 8) g0, c0 * 8), some (.ints .u8 (N1 * 8) g1, c1 * 8)] _
    refine And.intro (And.intro rfl (And.intro rfl trivial)) (Spec.mono (eqVecs_s N1 c1 c0 g1 g0 (by omega) (fun j hj => by rw [hg1 j hj, hg0 j hj])) ?_)
    rintro r m ⟨rfl, rfl⟩
    change opsVC _ _ _ _ _ _ [some (algV p n U C, 522), some (.ints .u8 (N1 * 8) g0, c0 * 8), some (.ints .u8 (N1 * 8) g1, c1 * 8)] _
    refine And.intro (And.intro rfl trivial) (Spec.mono (markVecs_s N1 c1 101 g1 (by omega) (by omega)) ?_)
    rintro r m ⟨rfl, rfl⟩
    change opsVC _ _ _ _ _ _ [some (algV p n U C, 522), some (.ints .u8 (N1 * 8) g0, c0 * 8), some (.ints .u8 (N1 * 8) (markF 101), c1 * 8)] _
    refine And.intro (And.intro rfl trivial) (Spec.mono (heldVecs_s N1 c1 101 (by omega) (by omega)) ?_)
    rintro r m ⟨rfl, rfl⟩
    change opsVC _ _ _ _ _ _ [some (algV p n U C, 522), some (.ints .u8 (N1 * 8) g0, c0 * 8), some (.ints .u8 (N1 * 8) (markF 101), c1 * 8)] _
    refine ifVC_false (by simp) ?_
    refine And.intro trivial (Spec.mono (toCoalgebra_s p n U C) ?_)
    rintro r m ⟨rfl, rfl⟩
    change opsVC _ _ _ _ _ _ [some (algV p n U C, 522), some (.ints .u8 (N1 * 8) g0, c0 * 8), some (.ints .u8 (N1 * 8) (markF 101), c1 * 8)] _
    refine And.intro trivial (Spec.mono (implGroupsQ_s p n U C hU hC) ?_)
    rintro r m (⟨h1', _⟩ | ⟨_, h1', _⟩ | ⟨_, _, _, hz, rfl, rfl⟩ | ⟨_, _, N2, c2, g2, hN2, hp2, hg2, rfl, rfl⟩)
    · rw [h1] at h1'; cases h1'
    · omega
    · have := hp1 rfl; omega
    obtain rfl : N2 = N1 := by rw [hN2, hN1]
    change opsVC _ _ _ _ _ _ [some (algV p n U C, 522), some (.ints .u8 (N2 * 8) g0, c0 * 8), some (.ints .u8 (N2 * 8) (markF 101), c1 * 8), some (.ints .u8 (N2 * 8) g2, c2 * 8)] _
    refine And.intro (And.intro rfl (And.intro rfl trivial)) (Spec.mono (eqVecs_s N2 c2 c0 g2 g0 (by omega) (fun j hj => by rw [hg2 j hj, hg0 j hj])) ?_)
    rintro r m ⟨rfl, rfl⟩
    change opsVC _ _ _ _ _ _ [some (algV p n U C, 522), some (.ints .u8 (N2 * 8) g0, c0 * 8), some (.ints .u8 (N2 * 8) (markF 101), c1 * 8), some (.ints .u8 (N2 * 8) g2, c2 * 8)] _
    refine And.intro (And.intro rfl trivial) (Spec.mono (heldVecs_s N2 c1 101 (by omega) (by omega)) ?_)
    rintro r m ⟨rfl, rfl⟩
    change opsVC _ _ _ _ _ _ [some (algV p n U C, 522), some (.ints .u8 (N2 * 8) g0, c0 * 8), some (.ints .u8 (N2 * 8) (markF 101), c1 * 8), some (.ints .u8 (N2 * 8) g2, c2 * 8)] _
    refine ifVC_false (by simp) ?_
    exact boolEq rfl
end Go.Proofs.Ytmhebgcnloomaaa
