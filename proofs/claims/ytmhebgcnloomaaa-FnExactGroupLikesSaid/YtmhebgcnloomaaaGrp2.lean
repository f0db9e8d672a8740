/- All group-like vectors, in the order of their entries, on both sides. -/
import Derived.Test.YtmhebgcnloomaaaGrp
import Derived.Test.YtmhebgcnloomaaaVecs
set_option linter.unusedVariables false
set_option maxRecDepth 100000
set_option maxHeartbeats 4000000
namespace Go.Proofs.Ytmhebgcnloomaaa
open M

/-- how many of the first m there are, and their rows one behind the other -/
def cntG (G : Nat → Bool) : Nat → Nat
  | 0 => 0
  | m + 1 => if G m = true then cntG G m + 1 else cntG G m
def conG (G : Nat → Bool) (D : Nat → Nat → Int) : Nat → Nat → Int
  | 0 => fun _ => 0
  | m + 1 => if G m = true then fun j => if j < cntG G m * 8 then conG G D m j else D m (j - cntG G m * 8) else conG G D m
theorem cntG_le (G : Nat → Bool) : ∀ m, cntG G m ≤ m
  | 0 => Nat.le_refl _
  | m + 1 => by have := cntG_le G m; unfold cntG; split <;> omega
theorem cntG_yes {G : Nat → Bool} {m : Nat} (h : G m = true) : cntG G (m + 1) = cntG G m + 1 := by simp [cntG, h]
theorem cntG_no {G : Nat → Bool} {m : Nat} (h : G m = false) : cntG G (m + 1) = cntG G m := by simp [cntG, h]
theorem conG_yes {G : Nat → Bool} {D : Nat → Nat → Int} {m : Nat} (h : G m = true) (j : Nat) : conG G D (m + 1) j = if j < cntG G m * 8 then conG G D m j else D m (j - cntG G m * 8) := by simp [conG, h]
theorem conG_no {G : Nat → Bool} {D : Nat → Nat → Int} {m : Nat} (h : G m = false) : conG G D (m + 1) = conG G D m := by simp [conG, h]

def GG (P n : Nat) (U C : Nat → Int) (m : Nat) : Bool := groupB P U C (digF P n m)

theorem co_field {p n : Int} {U C : Nat → Int} (h : coB p n U C = true) : ∃ P : Nat, p = P ∧ (2 ≤ P ∧ P ≤ 31) ∧ 1 ≤ n ∧ n ≤ 8 := by
  unfold coB algB at h
  simp only [Bool.and_eq_true] at h
  have hf := shape_field h.1
  have hb := field_bounds hf
  unfold fieldB at hf
  simp only [Bool.and_eq_true] at hf
  have hp : ¬ (p < 2 ∨ 31 < p) := fun hh => by rw [primeB_out hh] at hf; exact absurd hf.1 (by simp)
  exact ⟨p.toNat, by omega, ⟨by omega, by omega⟩, hb.2⟩

/-- what is told: of a new list its number and its rows -/
def GrpAns (hasNil : Bool) (p n : Int) (U C : Nat → Int) (r : SV) (m : Mem) : Prop :=
  (coB p n U C = false ∧ r = .tcons .nilsl (.tcons (.int .i64 1) .tnil)) ∨
  (coB p n U C = true ∧ 5000 < p.toNat ^ n.toNat ∧ r = .tcons .nilsl (.tcons (.int .i64 3) .tnil)) ∨
  (hasNil = true ∧ coB p n U C = true ∧ p.toNat ^ n.toNat ≤ 5000 ∧ cntG (GG p.toNat n.toNat U C) (p.toNat ^ n.toNat) = 0 ∧ r = .tcons .nilsl (.tcons (.int .i64 0) .tnil)) ∨
  (coB p n U C = true ∧ p.toNat ^ n.toNat ≤ 5000 ∧ ∃ id cap g, (hasNil = true → 0 < cntG (GG p.toNat n.toNat U C) (p.toNat ^ n.toNat)) ∧
    (∀ j, j < cntG (GG p.toNat n.toNat U C) (p.toNat ^ n.toNat) * 8 → g j = conG (GG p.toNat n.toNat U C) (digF p.toNat n.toNat) (p.toNat ^ n.toNat) j) ∧
    r = .tcons (.sl id 0 (cntG (GG p.toNat n.toNat U C) (p.toNat ^ n.toNat)) cap) (.tcons (.int .i64 0) .tnil) ∧ blockOf m id = some (.ints .u8 (cntG (GG p.toNat n.toNat U C) (p.toNat ^ n.toNat) * 8) g, cap * 8))
theorem GrpAns.bad {b : Bool} {p n : Int} {U C : Nat → Int} {m : Mem} (h : coB p n U C = false) : GrpAns b p n U C (.tcons .nilsl (.tcons (.int .i64 1) .tnil)) m := .inl ⟨h, rfl⟩
theorem GrpAns.limit {b : Bool} {P n : Nat} {U C : Nat → Int} {m : Mem} (h : coB P n U C = true) (h2 : 5000 < P ^ n) : GrpAns b P n U C (.tcons .nilsl (.tcons (.int .i64 3) .tnil)) m := .inr (.inl ⟨h, h2, rfl⟩)
theorem GrpAns.none {P n : Nat} {U C : Nat → Int} {m : Mem} (h : coB P n U C = true) (h2 : P ^ n ≤ 5000) (h3 : cntG (GG P n U C) (P ^ n) = 0) : GrpAns true P n U C (.tcons .nilsl (.tcons (.int .i64 0) .tnil)) m := .inr (.inr (.inl ⟨rfl, h, h2, h3, rfl⟩))
theorem GrpAns.some {b : Bool} {P n id cap : Nat} {U C g : Nat → Int} {m : Mem} (h : coB P n U C = true) (h2 : P ^ n ≤ 5000) (h3 : b = true → 0 < cntG (GG P n U C) (P ^ n)) (hg : ∀ j, j < cntG (GG P n U C) (P ^ n) * 8 → g j = conG (GG P n U C) (digF P n) (P ^ n) j)
    (hb : blockOf m id = some (.ints .u8 (cntG (GG P n U C) (P ^ n) * 8) g, cap * 8)) : GrpAns b P n U C (.tcons (.sl id 0 (cntG (GG P n U C) (P ^ n)) cap) (.tcons (.int .i64 0) .tnil)) m :=
  .inr (.inr (.inr ⟨h, h2, id, cap, g, h3, hg, rfl, hb⟩))

/-- the list that stands after m vectors: nil, or a slice of so much room -/
def lstS (c : Nat) : Option Nat → SV
  | none => .nilsl
  | some cap => .sl 2 0 c cap
def lstM (c : Nat) (f : Nat → Int) : Option Nat → Option (SV × Nat)
  | none => none
  | some cap => some (.ints .u8 (c * 8) f, cap * 8)
def lstI (c : Nat) : Option Nat → Prop
  | none => c = 0
  | some cap => 0 < c ∧ c ≤ cap

theorem implGroups_s (p n : Int) (U C : Nat → Int) (hU : isU8 8 U) (hC : isU8 512 C) : Spec Try.prog 14 [algV p n U C] [] (GrpAns true p n U C) := by
  refine (Spec.of_vc tabOK tabEq Try.func14 rfl (by kernel_rfl) rfl rfl ?_)
  refine And.intro trivial (Spec.mono (implIsCo_s p n U C hU hC) ?_)
  rintro r m ⟨rfl, rfl⟩
  refine ifVC_split (fun hs => ?_) (fun hs => ?_)
  · exact GrpAns.bad (by simpa using hs)
  have hs : coB p n U C = true := by simpa using hs
  obtain ⟨P, rfl, hP, hn⟩ := co_field hs
  obtain ⟨n, rfl, hV⟩ := coB_valid hU hC hs
  refine And.intro trivial (Spec.mono (countVectors_s P n (by omega) (by omega)) ?_)
  rintro r m ⟨rfl, rfl⟩
  refine ifVC_split (fun h0 => ?_) (fun h0 => ?_)
  · exact GrpAns.limit hs (by have := of_decide_eq_true h0; omega)
  have h0 : P ^ n ≤ 5000 := by have := of_decide_eq_false h0; omega
  (repeat (first | refine And.intro (by omega) ?_ | refine And.intro ⟨by omega, by omega⟩ ?_))
  refine LoopVC.ofL 3 (fun x : Nat × Option Nat => x.1 ≤ P ^ n ∧ lstI (cntG (GG P n U C) x.1) x.2) (fun x => [(1, .ptr 0 [] 0 0), (4, lstS (cntG (GG P n U C) x.1) x.2), (5, .sl 1 0 8 8), (6, .bool (decide (x.1 < P ^ n)))])
    (fun x => [some (algV P n U C, 522), some (.ints .u8 8 (digF P n x.1), 8), lstM (cntG (GG P n U C) x.1) (conG (GG P n U C) (digF P n) x.1) x.2]) (fun x => P ^ n - x.1) (0, none) ⟨by omega, rfl⟩ ?_ ?_ ?_ (by rfl) ?_
  · exact And.intro rfl (And.intro rfl (And.intro rfl (And.intro (boolEq (by simp; exact Nat.pow_pos (by omega))) trivial)))
  · exact And.intro (And.intro (algR P n U C) rfl) (And.intro (And.intro (rowEq fun j hj => (digF_zero P n j).symm) rfl) trivial)
  · rintro ⟨m, o⟩ ⟨hm, ho⟩
    have hv : ∀ z : Nat → Int, (∀ j, z j = 0) → (fun j => updR z 0 8 (fun j => digF P n m (j + 0)) (j + 0)) = digF P n m := fun z hz => funext fun j => by
      show updR z 0 8 (fun j => digF P n m (j + 0)) (j + 0) = _
      unfold updR
      by_cases hj : j < 8
      · rw [if_pos (by omega)]; rfl
      · rw [if_neg (by omega), digF_out (by omega), hz]
    have hgl : Spec Try.prog 27 [algV P n U C, .ints .u8 8 (fun j => updR (fun _ => 0) 0 8 (fun j => digF P n m (j + 0)) (j + 0))] [] (Ret (.bool (GG P n U C m))) := by
      rw [hv _ fun _ => rfl]
      exact isGroupLike_s P n U C (digF P n m) hV hU hC (digF_u8 n m (by omega))
    have hle := cntG_le (GG P n U C) m
    have b1 : (cntG (GG P n U C) m + 1) * 8 ≤ 140737488355328 := by omega
    have b2 : cntG (GG P n U C) m + 1 ≤ 4611686018427387904 := by omega
    cases o with
    | none =>
      have ho : cntG (GG P n U C) m = 0 := ho
      refine ifVC_split (fun hh => ?_) (fun hh => ?_)
      · have hlt : m < P ^ n := of_decide_eq_true hh
        (repeat (first | refine And.intro (by omega) ?_ | refine And.intro ⟨by omega, by omega⟩ ?_))
        refine And.intro trivial (Spec.mono hgl ?_)
        rintro r m' ⟨rfl, rfl⟩
        refine ifVC_split (fun hg => ?_) (fun hg => ?_)
        · (repeat (first | refine And.intro (by omega) ?_ | refine And.intro ⟨by omega, by omega⟩ ?_))
          refine Or.inl (And.intro ⟨by omega, by omega, by omega⟩ (Exists.intro 2 (fun cap' hcap => ?_)))
          refine Exists.intro 6 (And.intro (by kernel_rfl) ?_)
          (repeat (first | refine And.intro (by omega) ?_ | refine And.intro ⟨by omega, by omega⟩ ?_))
          refine And.intro (And.intro rfl trivial) (Spec.mono (countUp_s P n m hP (by omega) hlt) ?_)
          rintro r m' ⟨rfl, rfl⟩
          have e1 : cntG (GG P n U C) (m + 1) = 1 := by rw [cntG_yes hg, ho]
          refine Exists.intro (m + 1, some cap') (And.intro ⟨hlt, show 0 < cntG (GG P n U C) (m + 1) ∧ cntG (GG P n U C) (m + 1) ≤ cap' from ⟨by omega, by omega⟩⟩ (And.intro (show P ^ n - (m + 1) < P ^ n - m by omega) (And.intro (And.intro rfl (And.intro ?_ (And.intro rfl (And.intro rfl trivial)))) ?_)))
          · show SV.eqv (.sl 2 0 1 cap') (.sl 2 0 (cntG (GG P n U C) (m + 1)) cap')
            rw [e1]; rfl
          · refine And.intro (And.intro (algR P n U C) rfl) (And.intro (And.intro (rowEq fun _ _ => rfl) rfl) (And.intro (And.intro (And.intro (And.intro rfl ?_) fun j hj => ?_) rfl) trivial))
            · show 1 * 8 = cntG (GG P n U C) (m + 1) * 8
              rw [e1]
            · rw [conG_yes hg, ho, if_neg (by omega)]
              show updR _ 0 8 (fun j => updR _ 0 8 (fun j => digF P n m (j + 0)) (j + 0)) (j + 0) = _
              unfold updR
              rw [if_pos (by omega)]
              dsimp only
              rw [if_pos (by omega)]
              rfl
        · refine Exists.intro 6 (And.intro (by kernel_rfl) ?_)
          (repeat (first | refine And.intro (by omega) ?_ | refine And.intro ⟨by omega, by omega⟩ ?_))
          refine And.intro (And.intro rfl trivial) (Spec.mono (countUp_s P n m hP (by omega) hlt) ?_)
          rintro r m' ⟨rfl, rfl⟩
          have e1 : cntG (GG P n U C) (m + 1) = 0 := by rw [cntG_no hg, ho]
          refine Exists.intro (m + 1, none) (And.intro ⟨hlt, e1⟩ (And.intro (show P ^ n - (m + 1) < P ^ n - m by omega) (And.intro (And.intro rfl (And.intro rfl (And.intro rfl (And.intro rfl trivial)))) ?_)))
          exact And.intro (And.intro (algR P n U C) rfl) (And.intro (And.intro (rowEq fun _ _ => rfl) rfl) trivial)
      · have hge : ¬ m < P ^ n := of_decide_eq_false hh
        obtain rfl : m = P ^ n := by omega
        exact GrpAns.none hs h0 ho
    | some cap =>
      obtain ⟨ho1, ho2⟩ := ho
      have ho1 : 0 < cntG (GG P n U C) m := ho1
      have ho2 : cntG (GG P n U C) m ≤ cap := ho2
      refine ifVC_split (fun hh => ?_) (fun hh => ?_)
      · have hlt : m < P ^ n := of_decide_eq_true hh
        (repeat (first | refine And.intro (by omega) ?_ | refine And.intro ⟨by omega, by omega⟩ ?_))
        refine And.intro trivial (Spec.mono hgl ?_)
        rintro r m' ⟨rfl, rfl⟩
        refine ifVC_split (fun hg => ?_) (fun hg => ?_)
        · (repeat (first | refine And.intro (by omega) ?_ | refine And.intro ⟨by omega, by omega⟩ ?_))
          refine Or.inl (And.intro ⟨Nat.le_refl _, rfl, ho2, b1, b2⟩ (fun cap' hcap => ?_))
          have hcap : cntG (GG P n U C) m + 1 ≤ cap' := hcap
          refine Exists.intro 6 (And.intro (by kernel_rfl) ?_)
          (repeat (first | refine And.intro (by omega) ?_ | refine And.intro ⟨by omega, by omega⟩ ?_))
          refine And.intro (And.intro rfl trivial) (Spec.mono (countUp_s P n m hP (by omega) hlt) ?_)
          rintro r m' ⟨rfl, rfl⟩
          have e1 : cntG (GG P n U C) (m + 1) = cntG (GG P n U C) m + 1 := cntG_yes hg
          refine Exists.intro (m + 1, some cap') (And.intro ⟨hlt, show 0 < cntG (GG P n U C) (m + 1) ∧ cntG (GG P n U C) (m + 1) ≤ cap' from ⟨by omega, by omega⟩⟩ (And.intro (show P ^ n - (m + 1) < P ^ n - m by omega) (And.intro (And.intro rfl (And.intro ?_ (And.intro rfl (And.intro rfl trivial)))) ?_)))
          · show SV.eqv (.sl 2 0 (cntG (GG P n U C) m + 1) cap') (.sl 2 0 (cntG (GG P n U C) (m + 1)) cap')
            rw [e1]; rfl
          · refine And.intro (And.intro (algR P n U C) rfl) (And.intro (And.intro (rowEq fun _ _ => rfl) rfl) (And.intro (And.intro (And.intro (And.intro rfl ?_) fun j hj => ?_) rfl) trivial))
            · show (cntG (GG P n U C) m + 1) * 8 = cntG (GG P n U C) (m + 1) * 8
              rw [e1]
            · have hj : j < (cntG (GG P n U C) m + 1) * 8 := hj
              rw [conG_yes hg]
              show appF _ (cntG (GG P n U C) m * 8) 0 (updR _ 0 8 (fun j => updR _ 0 8 (fun j => digF P n m (j + 0)) (j + 0))) j = _
              unfold appF
              by_cases hj2 : j < cntG (GG P n U C) m * 8
              · rw [if_pos hj2, if_pos hj2]
              · rw [if_neg hj2, if_neg hj2]
                unfold updR
                rw [if_pos (by omega)]
                dsimp only
                rw [if_pos (by omega)]
                rfl
        · refine Exists.intro 6 (And.intro (by kernel_rfl) ?_)
          (repeat (first | refine And.intro (by omega) ?_ | refine And.intro ⟨by omega, by omega⟩ ?_))
          refine And.intro (And.intro rfl trivial) (Spec.mono (countUp_s P n m hP (by omega) hlt) ?_)
          rintro r m' ⟨rfl, rfl⟩
          have e1 : cntG (GG P n U C) (m + 1) = cntG (GG P n U C) m := cntG_no hg
          refine Exists.intro (m + 1, some cap) (And.intro ⟨hlt, show 0 < cntG (GG P n U C) (m + 1) ∧ cntG (GG P n U C) (m + 1) ≤ cap from ⟨by omega, by omega⟩⟩ (And.intro (show P ^ n - (m + 1) < P ^ n - m by omega) (And.intro (And.intro rfl (And.intro ?_ (And.intro rfl (And.intro rfl trivial)))) ?_)))
          · show SV.eqv (.sl 2 0 (cntG (GG P n U C) m) cap) (.sl 2 0 (cntG (GG P n U C) (m + 1)) cap)
            rw [e1]; rfl
          · refine And.intro (And.intro (algR P n U C) rfl) (And.intro (And.intro (rowEq fun _ _ => rfl) rfl) (And.intro (And.intro (And.intro (And.intro rfl ?_) fun j hj => ?_) rfl) trivial))
            · show cntG (GG P n U C) m * 8 = cntG (GG P n U C) (m + 1) * 8
              rw [e1]
            · rw [conG_no hg]
      · have hge : ¬ m < P ^ n := of_decide_eq_false hh
        obtain rfl : m = P ^ n := by omega
        exact GrpAns.some hs h0 (fun _ => ho1) (fun _ _ => rfl) rfl
  · rintro ⟨m, o⟩ _
    cases o <;> rfl
end Go.Proofs.Ytmhebgcnloomaaa
