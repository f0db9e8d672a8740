/- The model's sums, maps and products of vectors. -/
import Derived.Test.YtcocapkdpbdmdaaRows2
set_option linter.unusedVariables false
set_option linter.unusedSimpArgs false
set_option maxRecDepth 100000
namespace Go.Proofs.Ytcocapkdpbdmdaa
open M

theorem mod_twice {p x : Int} (hp : 0 < p) : 0 ≤ x.tmod p + p ∧ (x.tmod p + p).tmod p = x % p := by
  have hm := Int.emod_nonneg x (show p ≠ 0 by omega)
  have hl := Int.emod_lt_of_pos x hp
  have e := Int.tmod_eq_emod (a := x) (b := p)
  have hn : (p.natAbs : Int) = p := by omega
  have key : x.tmod p + p = x % p + p ∨ x.tmod p + p = x % p := by
    rw [e]
    split
    · left; simp
    · right; rw [hn]; omega
  rcases key with h | h
  · rw [h]
    refine ⟨by omega, ?_⟩
    rw [Int.tmod_eq_emod_of_nonneg (by omega), Int.add_emod_right, Int.emod_emod]
  · rw [h]
    refine ⟨hm, ?_⟩
    rw [Int.tmod_eq_emod_of_nonneg hm, Int.emod_emod]

theorem l01Mod_s (p x : Int) (hp : 0 < p ∧ p < 256) (hx : -9000000000 ≤ x ∧ x ≤ 9000000000) : Spec Try.prog 50 [.int .i64 p, .int .i64 x] [] (Ret (.int .u8 (x % p))) := by
  refine Spec.ret rfl (Spec.of_vc tabOK tabEq Try.func50 rfl (by kernel_rfl) rfl rfl ?_)
  refine And.intro (by omega) ?_
  refine And.intro (by omega) ?_
  have h := mod_twice (p := p) (x := x) hp.1
  have hb : x.tmod p ≤ 9000000000 := by
    have e := Int.tmod_eq_emod (a := x) (b := p)
    have hl := Int.emod_lt_of_pos x hp.1
    rw [e]
    split <;> omega
  refine congrArg (SV.int .u8) ?_
  rw [wrapI (x := x.tmod p + p) (by omega), h.2, wrapB (modB hp)]

theorem l01Add_s (p k : Int) (v w : Nat → Int) (hp : 0 < p ∧ p < 256) (hk : -256 < k ∧ k < 256) (hv : isU8 8 v) (hw : isU8 8 w) :
    Spec Try.prog 71 [.int .i64 p, .ints .u8 8 v, .ints .u8 8 w, .int .i64 k] [] (Ret (.ints .u8 8 (addM p v k w))) := by
  refine Spec.ret rfl (Spec.of_vc tabOK tabEq Try.func71 rfl (by kernel_rfl) rfl rfl ?_)
  refine LoopVC.of (fun i : Nat => i ≤ 8) (fun i => [(0, .int .i64 p), (3, .int .i64 k), (5, .ptr 0 [] 0 0), (6, .ptr 1 [] 0 0), (8, .ptr 2 [] 0 0), (9, .int .i64 i)])
    (fun i => [some (.ints .u8 8 fun j => if j < i then addM p v k w j else v j, 8), some (.ints .u8 8 w, 8), some (.ints .u8 8 fun _ => 0, 8)]) (fun i => 8 - i) 0 (by omega) ?_ ?_ ?_
  · exact And.intro rfl (And.intro rfl (And.intro rfl (And.intro rfl (And.intro rfl (And.intro rfl trivial)))))
  · exact And.intro (And.intro (rowEq fun _ _ => rfl) rfl) (And.intro (And.intro (rowEq fun _ _ => rfl) rfl) (And.intro (And.intro (rowEq fun _ _ => rfl) rfl) trivial))
  · intro i hi
    refine ifVC_split (fun h => ?_) (fun h => ?_)
    · have hlt := of_decide_eq_true h
      have hvi := hv i (by omega)
      have hwi := hw i (by omega)
      have hmul : -65025 ≤ k * w i ∧ k * w i ≤ 65025 := by
        rcases Int.le_total 0 k with h0 | h0
        · have := mulB ⟨h0, hk.2⟩ hwi; omega
        · have := mulB (a := -k) ⟨by omega, by omega⟩ hwi
          rw [Int.neg_mul] at this; omega
      refine Exists.intro 14 (And.intro (by kernel_rfl) ?_)
      refine And.intro ⟨by omega, by omega⟩ ?_
      refine And.intro (by omega) ?_
      refine And.intro ⟨by omega, by omega⟩ ?_
      refine And.intro (by omega) ?_
      have hin : ∀ x y : Nat, x = i → y = i → IntKind.i64.wrap (IntKind.i64.wrap ((fun j => if j < i then addM p v k w j else v j) x) + IntKind.i64.wrap (k * IntKind.i64.wrap (w y))) = v i + k * w i := fun x y hx hy => by
        subst hx; subst hy
        dsimp only
        rw [if_neg (show ¬ y < y by omega), wrapI (x := v y) (by omega), wrapI (x := w y) (by omega), wrapI (x := k * w y) (by omega), wrapI (by omega)]
      refine Exists.intro (.int .u8 (addM p v k w i)) (And.intro (And.intro rfl (And.intro rfl ?_)) ?_)
      · refine Spec.mono (l01Mod_s p _ hp (by rw [hin _ _ (by omega) (by omega)]; omega)) ?_
        rintro r m ⟨rfl, _⟩
        refine congrArg (SV.int .u8) ?_
        rw [hin _ _ (by omega) (by omega)]
        rfl
      refine And.intro ⟨by omega, by omega⟩ ?_
      refine And.intro (by omega) ?_
      refine Exists.intro (i + 1) (And.intro (by omega) (And.intro (by omega) (And.intro (And.intro rfl (And.intro rfl (And.intro rfl (And.intro rfl (And.intro rfl (And.intro (slotI (wrapS (by omega))) trivial)))))) ?_)))
      refine And.intro (And.intro (rowEq fun j hj => ?_) rfl) (And.intro (And.intro (rowEq fun _ _ => rfl) rfl) (And.intro (And.intro (rowEq fun _ _ => rfl) rfl) trivial))
      show upd1 _ _ _ j = if j < i + 1 then addM p v k w j else v j
      unfold upd1
      rw [show ((i : Int).toNat * 1 + 0) = i by omega]
      dsimp only
      by_cases h1 : j = i
      · subst h1
        rw [if_pos rfl, if_pos (show j < j + 1 by omega)]
      · rw [if_neg h1]
        by_cases h2 : j < i
        · rw [if_pos h2, if_pos (by omega)]
        · rw [if_neg h2, if_neg (by omega)]
    · have hge := of_decide_eq_false h
      obtain rfl : i = 8 := by omega
      refine And.intro (by omega) ?_
      refine And.intro (by omega) ?_
      refine And.intro (by omega) ?_
      refine rowEq fun j hj => ?_
      show updR _ 0 8 _ j = addM p v k w j
      simp [updR, hj]

theorem l01Basis_s (i : Int) (hi : 0 ≤ i ∧ i < 8) : Spec Try.prog 73 [.int .i64 i] [] (Ret (.ints .u8 8 (unitV i.toNat))) := by
  refine Spec.ret rfl (Spec.of_vc tabOK tabEq Try.func73 rfl (by kernel_rfl) rfl rfl ?_)
  refine And.intro (by omega) ?_
  refine And.intro ⟨by omega, by omega⟩ ?_
  refine And.intro (by omega) ?_
  refine And.intro (by omega) ?_
  refine And.intro (by omega) ?_
  refine And.intro (by omega) ?_
  refine rowEq fun j hj => ?_
  show updR _ 0 8 _ j = unitV i.toNat j
  simp [updR, hj, upd1, unitV]

/-- an algebra as plain data -/
def algV (p n : Int) (U T : Nat → Int) : SV := .pair (.int .i64 p) (.pair (.int .i64 n) (.pair (.ints .u8 8 U) (.pair (.ints .u8 512 T) .unit)))
/-- the row i of a table -/
def rowT (T : Nat → Int) (i : Nat) : Nat → Int := fun q => T (q + i * 64)
def timS (p : Int) (n : Nat) (T v w : Nat → Int) : Nat → Nat → Int
  | 0, _ => 0
  | i + 1, j => timS p n T v w i j + v i * (linS (rowT T i) w n j % p)

end Go.Proofs.Ytcocapkdpbdmdaa
