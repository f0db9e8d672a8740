/- Rows: their first place, inverses of numbers, division, and a search through a family of rows. -/
import Derived.Test.YtcocapkdpbdmdaaRows2
import Derived.Test.YtcocapkdpbdmdaaPrimes
import Derived.Test.YtcocapkdpbdmdaaLogB
set_option linter.unusedVariables false
set_option linter.unusedSimpArgs false
set_option maxRecDepth 100000
set_option maxHeartbeats 1000000
namespace Go.Proofs.Ytcocapkdpbdmdaa
open M

theorem firstPlace_s (w c cap : Nat) (g : Nat → Int) (hw : w ≤ 1000000) :
    Spec Try.prog 59 [.sl 0 0 w cap] [some (.ints .u8 w g, c)] (fun r m => (∃ k : Nat, k ≤ w ∧ (∀ i, i < k → g i = 0) ∧ (k < w → g k ≠ 0) ∧ r = .int .i64 k) ∧ m = [some (.ints .u8 w g, c)]) := by
  refine (Spec.of_vc tabOK tabEq Try.func59 rfl (by kernel_rfl) rfl rfl ?_)
  refine LoopVC.of (fun i : Nat => i ≤ w ∧ ∀ j, j < i → g j = 0) (fun i => [(0, .sl 0 0 w cap), (5, .sl 0 0 w cap), (6, .int .i64 w), (7, .int .i64 i)]) (fun _ => [some (.ints .u8 w g, c)]) (fun i => w - i) 0 ⟨by omega, fun j hj => by omega⟩ ?_ ?_ ?_
  · exact (And.intro rfl (And.intro rfl (And.intro rfl (And.intro rfl (trivial)))))
  · exact And.intro (And.intro (rowEq fun _ _ => rfl) rfl) trivial
  · rintro i ⟨hi, hall⟩
    refine ifVC_split (fun h => ?_) (fun h => ?_)
    · have hlt := of_decide_eq_true h
      have hidx : (i : Int).toNat * 1 + 0 = i := by omega
      (repeat (first | refine And.intro (by omega) ?_ | refine And.intro ⟨by omega, by omega⟩ ?_))
      refine ifVC_split (fun hc => ?_) (fun hc => ?_)
      · have hc : g i ≠ 0 := by
          have hc : g ((i : Int).toNat * 1 + 0) ≠ 0 := by simpa using hc
          rw [hidx] at hc; exact hc
        exact ⟨⟨i, hi, hall, fun _ => hc, rfl⟩, rfl⟩
      · have hc : g i = 0 := by
          have hc : g ((i : Int).toNat * 1 + 0) = 0 := by simpa using hc
          rw [hidx] at hc; exact hc
        refine Exists.intro (i + 1) (And.intro ⟨by omega, fun j hj => ?_⟩ (And.intro (by omega) (And.intro ?_ ?_)))
        · by_cases hji : j = i
          · subst hji; exact hc
          · exact hall j (by omega)
        · exact And.intro rfl (And.intro rfl (And.intro rfl (And.intro (slotI (wrapS (by omega))) trivial)))
        · exact And.intro (And.intro (rowEq fun _ _ => rfl) rfl) trivial
    · have hge := of_decide_eq_false h
      obtain rfl : i = w := by omega
      exact ⟨⟨i, hi, hall, fun h => absurd h (Nat.lt_irrefl _), rfl⟩, rfl⟩

theorem invX : ∀ p : Fin 32, primeB (p.val : Int) = true → ∀ x : Fin 32, 0 < x.val → x.val < p.val → ∃ e : Fin 32, 0 < e.val ∧ e.val < p.val ∧ (e.val * x.val) % p.val = 1 := by decide

theorem inverseNumber_s (p x : Nat) (hp : primeB (p : Int) = true) (hp2 : 2 ≤ p ∧ p ≤ 31) (hx : 0 < x ∧ x < p) :
    Spec Try.prog 92 [.int .i64 p, .int .i64 x] [] (fun r m => ∃ y : Nat, 0 < y ∧ y < p ∧ y * x % p = 1 ∧ r = .int .i64 y ∧ m = []) := by
  obtain ⟨e, he0, hep, he⟩ := invX ⟨p, by omega⟩ hp ⟨x, by omega⟩ hx.1 hx.2
  have hep : e.val < p := hep
  have he : e.val * x % p = 1 := he
  generalize e.val = e at *
  refine (Spec.of_vc tabOK tabEq Try.func92 rfl (by kernel_rfl) rfl rfl ?_)
  refine LoopVC.of (fun i : Nat => 0 < i ∧ i ≤ e) (fun i => [(0, .int .i64 p), (1, .int .i64 x), (5, .int .i64 i)]) (fun _ => []) (fun i => e - i) 1 ⟨by omega, by omega⟩ ?_ trivial ?_
  · exact (And.intro rfl (And.intro rfl (And.intro rfl (trivial))))
  · rintro i ⟨hi0, hi⟩
    have hb : i * x ≤ 31 * 31 := Nat.mul_le_mul (by omega) (by omega)
    have hval : (IntKind.i64.wrap ((i : Int) * (x : Int))).tmod (p : Int) = ((i * x % p : Nat) : Int) := by
      rw [← Int.natCast_mul, wrapI (by omega)]
      rfl
    (repeat (first | refine And.intro (by omega) ?_ | refine And.intro ⟨by omega, by omega⟩ ?_))
    refine ifVC_split (fun h => ?_) (fun h => ?_)
    · have hne : i * x % p ≠ 1 := by
        have h : (!((IntKind.i64.wrap ((i : Int) * (x : Int))).tmod (p : Int) == 1)) = true := h
        rw [hval] at h
        intro hh
        rw [hh] at h
        simp at h
      have hie : i ≠ e := by rintro rfl; exact hne he
      exact Exists.intro (i + 1) (And.intro ⟨by omega, by omega⟩ (And.intro (by omega) (And.intro (And.intro rfl (And.intro rfl (And.intro (slotI (wrapS (by omega))) trivial))) trivial)))
    · have heq : i * x % p = 1 := by
        have h : (!((IntKind.i64.wrap ((i : Int) * (x : Int))).tmod (p : Int) == 1)) = false := h
        rw [hval] at h
        have : (((i * x % p : Nat) : Int) == 1) = true := by simpa using h
        have := eq_of_beq this
        generalize i * x % p = q at *
        omega
      exact ⟨i, hi0, by omega, heq, rfl, rfl⟩

/-- r and f times o, modulo p, for rows of w numbers -/
theorem addRow_s (w c1 c2 d1 d2 : Nat) (p f : Int) (r o : Nat → Int) (hw : w ≤ 1000000) (hp : 0 < p ∧ p < 256) (hf : 0 ≤ f ∧ f < 256) (hr : isU8 w r) (ho : isU8 w o) :
    Spec Try.prog 31 [.int .i64 p, .sl 0 0 w c1, .int .i64 f, .sl 1 0 w c2] [some (.ints .u8 w r, d1), some (.ints .u8 w o, d2)] (fun v m => v = .tnil ∧ m = [some (.ints .u8 w (addM p r f o), d1), some (.ints .u8 w o, d2)]) := by
  refine Spec.eqv (Spec.of_vc tabOK tabEq Try.func31 rfl (by kernel_rfl) rfl rfl ?_)
  refine LoopVC.of (fun i : Nat => i ≤ w) (fun i => [(0, .int .i64 p), (1, .sl 0 0 w c1), (2, .int .i64 f), (10, .sl 1 0 w c2), (11, .int .i64 w), (12, .int .i64 i)])
    (fun i => [some (.ints .u8 w fun j => if j < i then addM p r f o j else r j, d1), some (.ints .u8 w o, d2)]) (fun i => w - i) 0 (by omega) ?_ ?_ ?_
  · exact (And.intro rfl (And.intro rfl (And.intro rfl (And.intro rfl (And.intro rfl (And.intro rfl (trivial)))))))
  · exact And.intro (And.intro (rowEq fun _ _ => rfl) rfl) (And.intro (And.intro (rowEq fun _ _ => rfl) rfl) trivial)
  · intro i hi
    refine ifVC_split (fun h => ?_) (fun h => ?_)
    · have hlt := of_decide_eq_true h
      (repeat (first | refine And.intro (by omega) ?_ | refine And.intro ⟨by omega, by omega⟩ ?_))
      refine Exists.intro (i + 1) (And.intro (by omega) (And.intro (by omega) (And.intro (And.intro rfl (And.intro rfl (And.intro rfl (And.intro rfl (And.intro rfl (And.intro (slotI (wrapS (by omega))) trivial)))))) ?_)))
      refine And.intro (And.intro (rowEq fun j hj => ?_) rfl) (And.intro (And.intro (rowEq fun _ _ => rfl) rfl) trivial)
      show upd1 _ _ _ j = if j < i + 1 then addM p r f o j else r j
      unfold upd1
      rw [show ((i : Int).toNat * 1 + 0) = i by omega]
      dsimp only
      by_cases h1 : j = i
      · subst h1
        rw [if_pos rfl, if_neg (show ¬ j < j by omega), if_pos (show j < j + 1 by omega)]
        exact addM_val hp (hr j hj) hf (ho j hj)
      · rw [if_neg h1]
        by_cases h2 : j < i
        · rw [if_pos h2, if_pos (by omega)]
        · rw [if_neg h2, if_neg (by omega)]
    · have hge := of_decide_eq_false h
      obtain rfl : i = w := by omega
      exact And.intro rfl (And.intro (And.intro (rowEq fun j hj => by simp [hj]) rfl) (And.intro (And.intro (rowEq fun _ _ => rfl) rfl) trivial))

/-- y times r, modulo p -/
def mulM (p y : Int) (r : Nat → Int) : Nat → Int := fun j => y * r j % p
theorem mulM_val {p y b : Int} (hp : 0 < p ∧ p < 256) (hy : 0 ≤ y ∧ y < 256) (hb : 0 ≤ b ∧ b < 256) :
    IntKind.u8.wrap ((IntKind.i64.wrap (y * IntKind.i64.wrap b)).tmod p) = y * b % p := by
  have h := mulB hy hb
  rw [wrapI (x := b) (by omega), wrapI (x := y * b) (by omega), Int.tmod_eq_emod_of_nonneg (by omega), wrapB (modB hp)]
theorem divideRow_s (w cap d : Nat) (p x : Nat) (r : Nat → Int) (hw : w ≤ 1000000) (hp : primeB (p : Int) = true) (hp2 : 2 ≤ p ∧ p ≤ 31) (hx : 0 < x ∧ x < p) (hr : isU8 w r) :
    Spec Try.prog 80 [.int .i64 p, .sl 0 0 w cap, .int .u8 x] [some (.ints .u8 w r, d)] (fun v m => ∃ (y : Nat) (g : Nat → Int), 0 < y ∧ y < p ∧ y * x % p = 1 ∧ (∀ j, j < w → g j = mulM p y r j) ∧ v = .tnil ∧ m = [some (.ints .u8 w g, d)]) := by
  have hcv : Spec Try.prog 92 [.int .i64 p, .int .i64 (IntKind.i64.wrap (x : Int))] [] (fun r m => ∃ y : Nat, 0 < y ∧ y < p ∧ y * x % p = 1 ∧ r = .int .i64 y ∧ m = []) := by
    rw [wrapI (by omega)]; exact inverseNumber_s p x hp hp2 hx
  refine (Spec.of_vc tabOK tabEq Try.func80 rfl (by kernel_rfl) rfl rfl ?_)
  refine And.intro trivial (Spec.mono hcv ?_)
  rintro q m' ⟨y, hy0, hy, hxy, rfl, rfl⟩
  refine LoopVC.of (fun i : Nat => i ≤ w) (fun i => [(0, .int .i64 p), (1, .sl 0 0 w cap), (6, .int .i64 y), (13, .sl 0 0 w cap), (14, .int .i64 w), (15, .int .i64 i)])
    (fun i => [some (.ints .u8 w fun j => if j < i then mulM p y r j else r j, d)]) (fun i => w - i) 0 (by omega) ?_ ?_ ?_
  · exact (And.intro rfl (And.intro rfl (And.intro rfl (And.intro rfl (And.intro rfl (And.intro rfl (trivial)))))))
  · exact And.intro (And.intro (rowEq fun _ _ => rfl) rfl) trivial
  · intro i hi
    refine ifVC_split (fun h => ?_) (fun h => ?_)
    · have hlt := of_decide_eq_true h
      (repeat (first | refine And.intro (by omega) ?_ | refine And.intro ⟨by omega, by omega⟩ ?_))
      refine Exists.intro (i + 1) (And.intro (by omega) (And.intro (by omega) (And.intro (And.intro rfl (And.intro rfl (And.intro rfl (And.intro rfl (And.intro rfl (And.intro (slotI (wrapS (by omega))) trivial)))))) ?_)))
      refine And.intro (And.intro (rowEq fun j hj => ?_) rfl) trivial
      show upd1 _ _ _ j = if j < i + 1 then mulM p y r j else r j
      unfold upd1
      rw [show ((i : Int).toNat * 1 + 0) = i by omega]
      dsimp only
      by_cases h1 : j = i
      · subst h1
        rw [if_pos rfl, if_neg (show ¬ j < j by omega), if_pos (show j < j + 1 by omega)]
        exact mulM_val (by omega) (by omega) (hr j hj)
      · rw [if_neg h1]
        by_cases h2 : j < i
        · rw [if_pos h2, if_pos (by omega)]
        · rw [if_neg h2, if_neg (by omega)]
    · have hge := of_decide_eq_false h
      obtain rfl : i = w := by omega
      exact ⟨y, _, hy0, hy, hxy, fun j hj => if_pos hj, rfl, rfl⟩

/-! ### a family of rows, led to by a block of slices -/
/-- the slices off .. off + n of the first block lead to rows of w numbers -/
structure Family (m : Mem) (N c0 : Nat) (h : Nat → SV) (off n w : Nat) (ρ cp : Nat → Nat) (f : Nat → Nat → Int) (d : Nat → Nat) : Prop where
  hdr : blockOf m 0 = some (.vec N h, c0)
  fit : off + n ≤ N
  sl : ∀ i, i < n → h (off + i) = .sl (ρ i) 0 w (cp i)
  row : ∀ i, i < n → blockOf m (ρ i) = some (.ints .u8 w (f i), d i)
  ids : ∀ id u c, blockOf m id = some (u, c) → ∀ i ∈ u.ids, i < m.length
theorem Family.lt {m : Mem} {N c0 : Nat} {h : Nat → SV} {off n w : Nat} {ρ cp : Nat → Nat} {f : Nat → Nat → Int} {d : Nat → Nat} (hF : Family m N c0 h off n w ρ cp f d) : ∀ i, i < n → ρ i < m.length := fun i hi => blockOf_lt (by rw [hF.row i hi]; rfl)

theorem rowWithEntry_s (m : Mem) (N c0 off n cap w place : Nat) (h : Nat → SV) (ρ cp : Nat → Nat) (f : Nat → Nat → Int) (d : Nat → Nat) (hF : Family m N c0 h off n w ρ cp f d) (hn : n ≤ 1000000) (hpl : place < w) (hw : w ≤ 1000000) :
    Spec Try.prog 79 [.sl 0 off n cap, .int .i64 place] m (fun r m' => m' = m ∧ ((∃ k : Nat, k < n ∧ r = .int .i64 k ∧ f k place ≠ 0 ∧ ∀ i, i < k → f i place = 0) ∨ (r = .int .i64 (-1) ∧ ∀ i, i < n → f i place = 0))) := by
  have h0 : 0 < m.length := blockOf_lt (by rw [hF.hdr]; rfl)
  refine Spec.of_vc tabOK tabEq Try.func79 rfl (by kernel_rfl) rfl (by simp [idsOf, SV.ids, Nat.blt_eq, h0]) ?_
  refine LoopVC.ofR (fun i : Nat => i ≤ n ∧ ∀ j, j < i → f j place = 0) (fun i => [(1, .int .i64 place), (7, .sl 0 off n cap), (8, .int .i64 n), (9, .int .i64 i)]) (fun _ => m) (fun i => n - i) 0 ⟨by omega, fun j hj => by omega⟩ (fun i => i) (RenTo.same (And.intro rfl (And.intro rfl (And.intro rfl (And.intro rfl (trivial))))) fun i u d hb => ⟨u, hb, ?_⟩) (fun _ _ => Nat.le_refl _) ?_ ?_
  · exact eqv_refl u
  · rintro i hi
    refine ⟨fun t v hv => ?_, hF.ids⟩
    simp only [lk_cons] at hv
    intro j hj
    split at hv
    · cases hv; cases hj
    split at hv
    · cases hv
      have : j = 0 := by simpa [SV.ids] using hj
      omega
    split at hv
    · cases hv; cases hj
    split at hv
    · cases hv; cases hj
    cases hv
  · rintro i ⟨hi, hall⟩
    refine ifVC_split (fun hh => ?_) (fun hh => ?_)
    · have hlt := of_decide_eq_true hh
      (repeat (first | refine And.intro (by omega) ?_ | refine And.intro ⟨by omega, by omega⟩ ?_))
      refine opsVC_loadS (v := .sl (ρ i) 0 w (cp i)) rfl rfl rfl rfl hF.hdr (by have := hF.fit; omega) (by rw [show (i : Int).toNat * 1 + off = off + i by omega]; exact hF.sl i (by omega)) rfl ?_
      (repeat (first | refine And.intro (by omega) ?_ | refine And.intro ⟨by omega, by omega⟩ ?_))
      refine opsVC_load rfl rfl rfl rfl (hF.row i (by omega)) (by omega) ?_
      have hidx : (place : Int).toNat * 1 + 0 = place := by omega
      refine ifVC_split (fun hc => ?_) (fun hc => ?_)
      · have hc : f i place ≠ 0 := by
          have hc : f i ((place : Int).toNat * 1 + 0) ≠ 0 := by simpa using hc
          rw [hidx] at hc; exact hc
        exact ⟨rfl, .inl ⟨i, by omega, rfl, hc, hall⟩⟩
      · have hc : f i place = 0 := by
          have hc : f i ((place : Int).toNat * 1 + 0) = 0 := by simpa using hc
          rw [hidx] at hc; exact hc
        refine Exists.intro (i + 1) (Exists.intro (fun i => i) (And.intro ⟨by omega, fun j hj => ?_⟩ (And.intro (by omega) (RenTo.same ?_ fun i u d hb => ⟨u, hb, eqv_refl u⟩))))
        · by_cases hji : j = i
          · subst hji; exact hc
          · exact hall j (by omega)
        · exact And.intro rfl (And.intro rfl (And.intro rfl (And.intro (slotI (wrapS (by omega))) trivial)))
    · have hge := of_decide_eq_false hh
      obtain rfl : i = n := by omega
      exact ⟨rfl, .inr ⟨rfl, hall⟩⟩
end Go.Proofs.Ytcocapkdpbdmdaa
