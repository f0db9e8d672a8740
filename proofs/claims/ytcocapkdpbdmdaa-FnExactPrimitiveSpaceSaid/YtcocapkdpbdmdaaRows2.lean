/- Sums of vectors, linear maps on vectors, tables turned round: the program's own and the model's. -/
import Derived.Test.YtcocapkdpbdmdaaVec
set_option linter.unusedVariables false
set_option linter.unusedSimpArgs false
set_option maxRecDepth 100000
namespace Go.Proofs.Ytcocapkdpbdmdaa
open M

theorem wrapB {x : Int} (h : 0 ≤ x ∧ x < 256) : IntKind.u8.wrap x = x := by simp [IntKind.wrap, IntKind.bits, IntKind.signed]; omega
theorem mulB {a b : Int} (ha : 0 ≤ a ∧ a < 256) (hb : 0 ≤ b ∧ b < 256) : 0 ≤ a * b ∧ a * b ≤ 65025 :=
  ⟨Int.mul_nonneg ha.1 hb.1, by have := Int.mul_le_mul (a := a) (b := b) (c := 255) (d := 255) (by omega) (by omega) hb.1 (by omega); omega⟩
theorem modB {p x : Int} (hp : 0 < p ∧ p < 256) : 0 ≤ x % p ∧ x % p < 256 := ⟨Int.emod_nonneg _ (by omega), by have := Int.emod_lt_of_pos x hp.1; omega⟩

/-- r and f times o, modulo p -/
def addM (p : Int) (r : Nat → Int) (f : Int) (o : Nat → Int) : Nat → Int := fun j => (r j + f * o j) % p
theorem addM_u8 {p : Int} (hp : 0 < p ∧ p < 256) (n : Nat) (r : Nat → Int) (f : Int) (o : Nat → Int) : isU8 n (addM p r f o) := fun i _ => modB hp
theorem addM_val {p a f b : Int} (hp : 0 < p ∧ p < 256) (ha : 0 ≤ a ∧ a < 256) (hf : 0 ≤ f ∧ f < 256) (hb : 0 ≤ b ∧ b < 256) :
    IntKind.u8.wrap ((IntKind.i64.wrap (IntKind.i64.wrap a + IntKind.i64.wrap (f * IntKind.i64.wrap b))).tmod p) = (a + f * b) % p := by
  have h := mulB hf hb
  rw [wrapI (x := a) (by omega), wrapI (x := b) (by omega), wrapI (x := f * b) (by omega), wrapI (x := a + f * b) (by omega), Int.tmod_eq_emod_of_nonneg (by omega), wrapB (modB hp)]

theorem addToRow_s (p f : Int) (r o : Nat → Int) (hp : 0 < p ∧ p < 256) (hf : 0 ≤ f ∧ f < 256) (hr : isU8 8 r) (ho : isU8 8 o) :
    Spec Try.prog 31 [.int .i64 p, .sl 0 0 8 8, .int .i64 f, .sl 1 0 8 8] [some (.ints .u8 8 r, 8), some (.ints .u8 8 o, 8)]
      (fun v m => v = .tnil ∧ m = [some (.ints .u8 8 (addM p r f o), 8), some (.ints .u8 8 o, 8)]) := by
  refine Spec.eqv (Spec.of_vc tabOK tabEq Try.func31 rfl (by kernel_rfl) rfl rfl ?_)
  refine LoopVC.of (fun i : Nat => i ≤ 8) (fun i => [(0, .int .i64 p), (1, .sl 0 0 8 8), (2, .int .i64 f), (10, .sl 1 0 8 8), (11, .int .i64 8), (12, .int .i64 i)])
    (fun i => [some (.ints .u8 8 fun j => if j < i then addM p r f o j else r j, 8), some (.ints .u8 8 o, 8)]) (fun i => 8 - i) 0 (by omega) ?_ ?_ ?_
  · exact And.intro rfl (And.intro rfl (And.intro rfl (And.intro rfl (And.intro rfl (And.intro rfl trivial)))))
  · exact And.intro (And.intro (rowEq fun _ _ => rfl) rfl) (And.intro (And.intro (rowEq fun _ _ => rfl) rfl) trivial)
  · intro i hi
    refine ifVC_split (fun h => ?_) (fun h => ?_)
    · have hlt := of_decide_eq_true h
      refine And.intro ⟨by omega, by omega⟩ ?_
      refine And.intro (by omega) ?_
      refine And.intro ⟨by omega, by omega⟩ ?_
      refine And.intro (by omega) ?_
      refine And.intro (by omega) ?_
      refine And.intro ⟨by omega, by omega⟩ ?_
      refine And.intro (by omega) ?_
      refine Exists.intro (i + 1) (And.intro (by omega) (And.intro (by omega) (And.intro (And.intro rfl (And.intro rfl (And.intro rfl (And.intro rfl (And.intro rfl (And.intro (slotI (wrapS (by omega))) trivial)))))) ?_)))
      refine And.intro (And.intro (rowEq fun j hj => ?_) rfl) (And.intro (And.intro (rowEq fun _ _ => rfl) rfl) trivial)
      show upd1 _ _ _ j = if j < i + 1 then addM p r f o j else r j
      unfold upd1
      rw [show ((i : Int).toNat * 1 + 0) = i by omega]
      dsimp only
      by_cases h1 : j = i
      · subst h1
        rw [if_pos rfl, if_neg (show ¬ j < j by omega), if_pos (show j < j + 1 by omega)]
        exact addM_val hp (hr j hj) hf (ho j hj)
      · rw [if_neg h1]
        by_cases h2 : j < i
        · rw [if_pos h2, if_pos (by omega)]
        · rw [if_neg h2, if_neg (by omega)]
    · have hge := of_decide_eq_false h
      obtain rfl : i = 8 := by omega
      exact And.intro rfl (And.intro (And.intro (rowEq fun j hj => by simp [hj]) rfl) (And.intro (And.intro (rowEq fun _ _ => rfl) rfl) trivial))

theorem addMultiple_s (p f : Int) (v w : Nat → Int) (hp : 0 < p ∧ p < 256) (hf : 0 ≤ f ∧ f < 256) (hv : isU8 8 v) (hw : isU8 8 w) :
    Spec Try.prog 78 [.int .i64 p, .ints .u8 8 v, .int .i64 f, .ints .u8 8 w] [] (Ret (.ints .u8 8 (addM p v f w))) := by
  refine Spec.ret rfl (Spec.of_vc tabOK tabEq Try.func78 rfl (by kernel_rfl) rfl rfl ?_)
  refine Exists.intro 4 (And.intro (by kernel_rfl) ?_)
  refine And.intro (And.intro rfl (And.intro rfl trivial)) (Spec.mono (addToRow_s p f v w hp hf hv hw) ?_)
  rintro r m ⟨rfl, rfl⟩
  refine And.intro (by omega) ?_
  refine And.intro (by omega) ?_
  refine And.intro (by omega) ?_
  refine rowEq fun j hj => ?_
  show updR _ 0 8 _ j = addM p v f w j
  simp [updR, hj]

/-- the sum of v i times the row i of F, for i less than k -/
def linS (F v : Nat → Int) : Nat → Nat → Int
  | 0, _ => 0
  | i + 1, j => linS F v i j + v i * F (i * 8 + j)

theorem apply_s (p : Int) (F v : Nat → Int) (hp : 0 < p ∧ p < 256) (hF : isU8 64 F) (hv : isU8 8 v) :
    Spec Try.prog 91 [.int .i64 p, .ints .u8 64 F, .ints .u8 8 v] [] (Ret (.ints .u8 8 fun j => linS F v 8 j % p)) := by
  refine Spec.ret rfl (Spec.of_vc tabOK tabEq Try.func91 rfl (by kernel_rfl) rfl rfl ?_)
  refine And.intro (by omega) ?_
  refine LoopVC.of (fun i : Nat => i ≤ 8) (fun i => [(0, .int .i64 p), (4, .ptr 0 [] 0 0), (6, .ptr 2 [] 0 0), (7, .ptr 3 [] 0 0), (10, .ints .u8 8 v), (11, .int .i64 i)])
    (fun i => [some (.ints .u8 64 F, 64), none, some (.ints .u8 8 fun _ => 0, 8), some (.ints .u8 8 fun j => linS F v i j % p, 8)]) (fun i => 8 - i) 0 (by omega) ?_ ?_ ?_
  · exact And.intro rfl (And.intro rfl (And.intro rfl (And.intro rfl (And.intro (rowEq fun _ _ => rfl) (And.intro rfl trivial)))))
  · exact And.intro (And.intro (rowEq fun _ _ => rfl) rfl) (And.intro (And.intro (rowEq fun _ _ => rfl) rfl) (And.intro (And.intro (rowEq fun j _ => by simp [linS]) rfl) trivial))
  · intro i hi
    refine ifVC_split (fun h => ?_) (fun h => ?_)
    · have hlt := of_decide_eq_true h
      refine And.intro ⟨by omega, by omega⟩ ?_
      have hvi := hv i (by omega)
      refine ifVC_split (fun hz => ?_) (fun hz => ?_)
      · refine Exists.intro 8 (And.intro (by kernel_rfl) ?_)
        refine And.intro (by omega) ?_
        refine And.intro ⟨by omega, by omega⟩ ?_
        refine And.intro (by omega) ?_
        refine Exists.intro (.ints .u8 8 fun j => linS F v (i + 1) j % p) (And.intro (And.intro rfl (And.intro rfl ?_)) ?_)
        · refine Spec.mono (addMultiple_s p _ _ _ hp (by rw [wrapI (by rw [Int.toNat_natCast]; omega)]; rw [Int.toNat_natCast]; exact hvi) (fun j _ => modB hp) (fun j hj => hF _ (by omega))) ?_
          rintro r m ⟨rfl, _⟩
          refine congrArg (SV.ints .u8 8) (funext fun j => ?_)
          show (linS F v i (j + 0) % p + IntKind.i64.wrap (v ((i : Int).toNat)) * F (j + ((i : Int).toNat * 8 + 0))) % p = (linS F v i j + v i * F (i * 8 + j)) % p
          rw [Int.toNat_natCast, wrapI (by omega), Int.emod_add_emod, show j + (i * 8 + 0) = i * 8 + j by omega, Nat.add_zero]
        refine And.intro (by omega) ?_
        refine Exists.intro (i + 1) (And.intro (by omega) (And.intro (by omega) (And.intro (And.intro rfl (And.intro rfl (And.intro rfl (And.intro rfl (And.intro (rowEq fun _ _ => rfl) (And.intro (slotI (wrapS (by omega))) trivial)))))) ?_)))
        refine And.intro (And.intro (rowEq fun _ _ => rfl) rfl) (And.intro (And.intro (rowEq fun _ _ => rfl) rfl) (And.intro (And.intro (rowEq fun j hj => ?_) rfl) trivial))
        show updR _ 0 8 _ j = _
        simp [updR, hj]
      · have hz : v i = 0 := by
          have hz : v ((i : Int).toNat) = 0 := by simpa using hz
          rw [Int.toNat_natCast] at hz; exact hz
        refine Exists.intro (i + 1) (And.intro (by omega) (And.intro (by omega) (And.intro (And.intro rfl (And.intro rfl (And.intro rfl (And.intro rfl (And.intro (rowEq fun _ _ => rfl) (And.intro (slotI (wrapS (by omega))) trivial)))))) ?_)))
        refine And.intro (And.intro (rowEq fun _ _ => rfl) rfl) (And.intro (And.intro (rowEq fun _ _ => rfl) rfl) (And.intro (And.intro (rowEq fun j hj => ?_) rfl) trivial))
        show linS F v i j % p = (linS F v i j + v i * F (i * 8 + j)) % p
        rw [hz]; simp
    · have hge := of_decide_eq_false h
      obtain rfl : i = 8 := by omega
      refine And.intro (by omega) ?_
      refine And.intro (by omega) ?_
      refine And.intro (by omega) ?_
      refine rowEq fun j hj => ?_
      show updR _ 0 8 _ j = _
      simp [updR, hj]

def unitV (i : Nat) : Nat → Int := fun j => if j = i then 1 else 0
theorem basisVector_s (i : Int) (hi : 0 ≤ i ∧ i < 8) : Spec Try.prog 29 [.int .i64 i] [] (Ret (.ints .u8 8 (unitV i.toNat))) := by
  refine Spec.ret rfl (Spec.of_vc tabOK tabEq Try.func29 rfl (by kernel_rfl) rfl rfl ?_)
  refine And.intro ⟨by omega, by omega⟩ ?_
  refine And.intro (by omega) ?_
  refine And.intro (by omega) ?_
  refine And.intro (by omega) ?_
  refine And.intro (by omega) ?_
  refine rowEq fun j hj => ?_
  show updR _ 0 8 _ j = unitV i.toNat j
  simp [updR, hj, upd1, unitV]

/-- the table turned round -/
def flipF (t : Nat → Int) : Nat → Int := fun q => t ((q / 8 % 8) * 64 + (q / 64) * 8 + q % 8)
theorem flipTable_s (t : Nat → Int) : Spec Try.prog 90 [.ints .u8 512 t] [] (Ret (.ints .u8 512 (flipF t))) := by
  refine Spec.ret rfl (Spec.of_vc tabOK tabEq Try.func90 rfl (by kernel_rfl) rfl rfl ?_)
  refine And.intro (by omega) ?_
  refine LoopVC.of (fun i : Nat => i ≤ 8) (fun i => [(2, .ptr 1 [] 0 0), (3, .ptr 2 [] 0 0), (8, .ints .u8 512 t), (9, .int .i64 i)])
    (fun i => [none, some (.ints .u8 512 fun _ => 0, 512), some (.ints .u8 512 fun q => if q / 8 % 8 < i then flipF t q else 0, 512)]) (fun i => 8 - i) 0 (by omega) ?_ ?_ ?_
  · exact And.intro rfl (And.intro rfl (And.intro (rowEq fun _ _ => rfl) (And.intro rfl trivial)))
  · exact And.intro (And.intro (rowEq fun _ _ => rfl) rfl) (And.intro (And.intro (rowEq fun _ _ => rfl) rfl) trivial)
  · intro i hi
    refine ifVC_split (fun h => ?_) (fun h => ?_)
    · have hlt := of_decide_eq_true h
      refine And.intro ⟨by omega, by omega⟩ ?_
      refine And.intro (by omega) ?_
      refine And.intro (by omega) ?_
      refine LoopVC.of (fun k : Nat => k ≤ 8) (fun k => [(2, .ptr 1 [] 0 0), (3, .ptr 2 [] 0 0), (4, .int .i64 i), (8, .ints .u8 512 t), (9, .int .i64 i), (13, .ints .u8 64 fun j => t (j + i * 64)), (14, .int .i64 k)])
        (fun k => [none, some (.ints .u8 512 fun _ => 0, 512), some (.ints .u8 512 fun q => if q / 8 % 8 < i ∨ (q / 8 % 8 = i ∧ q / 64 < k) then flipF t q else 0, 512), none]) (fun k => 8 - k) 0 (by omega) ?_ ?_ ?_
      · exact And.intro rfl (And.intro rfl (And.intro rfl (And.intro (rowEq fun _ _ => rfl) (And.intro rfl (And.intro (rowEq fun j hj => by show updR _ 0 64 _ (j + 0) = _; simp [updR, hj]) (And.intro rfl trivial))))))
      · exact And.intro (And.intro (rowEq fun _ _ => rfl) rfl) (And.intro (And.intro (rowEq fun q _ => by simp) rfl) trivial)
      · intro k hk
        refine ifVC_split (fun h => ?_) (fun h => ?_)
        · have hlt2 := of_decide_eq_true h
          refine And.intro ⟨by omega, by omega⟩ ?_
          refine And.intro (by omega) ?_
          refine Exists.intro 4 (And.intro (by kernel_rfl) ?_)
          refine And.intro (by omega) ?_
          refine And.intro ⟨by omega, by omega⟩ ?_
          refine And.intro ⟨by omega, by omega⟩ ?_
          refine And.intro (by omega) ?_
          refine Exists.intro (k + 1) (And.intro (by omega) (And.intro (by omega) (And.intro (And.intro rfl (And.intro rfl (And.intro rfl (And.intro (rowEq fun _ _ => rfl) (And.intro rfl (And.intro (rowEq fun _ _ => rfl) (And.intro (slotI (wrapS (by omega))) trivial))))))) ?_)))
          refine And.intro (And.intro (rowEq fun _ _ => rfl) rfl) (And.intro (And.intro (rowEq fun q hq => ?_) rfl) trivial)
          show updR _ ((i : Int).toNat * 8 + ((k : Int).toNat * 64 + 0)) 8 _ q = _
          unfold updR
          rw [Int.toNat_natCast, Int.toNat_natCast]
          dsimp only
          by_cases h1 : i * 8 + (k * 64 + 0) ≤ q ∧ q < i * 8 + (k * 64 + 0) + 8
          · rw [if_pos h1, if_pos (by omega), if_pos (by omega)]
            show t _ = t _
            congr 1
            omega
          · rw [if_neg h1]
            by_cases h2 : q / 8 % 8 < i ∨ q / 8 % 8 = i ∧ q / 64 < k
            · rw [if_pos h2, if_pos (by omega)]
            · rw [if_neg h2, if_neg (by omega)]
        · have hge := of_decide_eq_false h
          obtain rfl : k = 8 := by omega
          refine Exists.intro (i + 1) (And.intro (by omega) (And.intro (by omega) (And.intro (And.intro rfl (And.intro rfl (And.intro (rowEq fun _ _ => rfl) (And.intro (slotI (wrapS (by omega))) trivial)))) ?_)))
          refine And.intro (And.intro (rowEq fun _ _ => rfl) rfl) (And.intro (And.intro (rowEq fun q hq => ?_) rfl) trivial)
          show (if q / 8 % 8 < i ∨ (q / 8 % 8 = i ∧ q / 64 < 8) then flipF t q else 0) = _
          by_cases h2 : q / 8 % 8 < i ∨ q / 8 % 8 = i ∧ q / 64 < 8
          · rw [if_pos h2, if_pos (by omega)]
          · rw [if_neg h2, if_neg (by omega)]
    · have hge := of_decide_eq_false h
      obtain rfl : i = 8 := by omega
      refine And.intro (by omega) ?_
      refine And.intro (by omega) ?_
      refine And.intro (by omega) ?_
      refine rowEq fun q hq => ?_
      show updR _ 0 512 _ q = flipF t q
      simp [updR, hq]
      omega
end Go.Proofs.Ytcocapkdpbdmdaa
