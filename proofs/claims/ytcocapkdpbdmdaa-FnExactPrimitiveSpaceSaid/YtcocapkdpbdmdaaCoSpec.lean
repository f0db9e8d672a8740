/- The model's check of coalgebras, and the program's. -/
import Derived.Test.YtcocapkdpbdmdaaDual
set_option linter.unusedVariables false
set_option linter.unusedSimpArgs false
set_option maxRecDepth 100000
namespace Go.Proofs.Ytcocapkdpbdmdaa
open M

theorem l02Shape_s (p n : Int) (U C : Nat → Int) (hU : isU8 8 U) (hC : isU8 512 C) : Spec Try.prog 68 [algV p n U C] [] (Ret (.bool (shapeB p n U C))) := by
  refine Spec.ret rfl (Spec.of_vc tabOK tabEq Try.func68 rfl (by kernel_rfl) rfl rfl ?_)
  refine And.intro trivial (Spec.mono (l01Sizes_s p n) ?_)
  rintro r m ⟨rfl, rfl⟩
  refine ifVC_split (fun hv => ?_) (fun hv => ?_)
  · refine And.intro (by omega) ?_
    refine And.intro trivial (Spec.mono (l01Vector_s p n _ (fun j hj => hU _ (by omega))) ?_)
    rintro r m ⟨rfl, rfl⟩
    refine ifVC_split (fun hw => ?_) (fun hw => ?_)
    · have hw : entriesB p n U = true := hw
      refine And.intro (by omega) ?_
      refine And.intro trivial (Spec.mono (l01Table_s p n _ (fun j hj => hC _ (by omega))) ?_)
      rintro r m ⟨rfl, rfl⟩
      exact boolEq (by simp [shapeB, vectorB, hv, hw])
    · have hw : entriesB p n U = false := hw
      exact boolEq (by simp [shapeB, vectorB, hv, hw])
  · exact boolEq (by simp [shapeB, vectorB, hv])

theorem vec_u8 {C : Nat → Int} (h : isU8 512 C) {i j k : Nat} (hi : i < 8) (hj : j < 8) (hk : k < 8) : 0 ≤ vecT C i j k ∧ vecT C i j k < 256 := h _ (by omega)

theorem l02Sums_s (p : Int) (n : Nat) (U C : Nat → Int) (i j k l : Nat) (hp : 0 < p ∧ p < 256) (hn : n ≤ 8) (hC : isU8 512 C) (hi : i < 8) (hj : j < 8) (hk : k < 8) (hl : l < 8) :
    Spec Try.prog 86 [algV p n U C, .int .i64 i, .int .i64 j, .int .i64 k, .int .i64 l] [] (Ret (.tcons (.int .u8 (coL n C i j k l % p)) (.tcons (.int .u8 (coR n C i j k l % p)) .tnil))) := by
  refine Spec.ret rfl (Spec.of_vc tabOK tabEq Try.func86 rfl (by kernel_rfl) rfl rfl ?_)
  have bL : ∀ a, a ≤ n → 0 ≤ coL a C i j k l ∧ coL a C i j k l ≤ 65025 * a := fun a ha => sum_bound a fun b hb => mulB (vec_u8 hC hi (by omega) hl) (vec_u8 hC (by omega) hj hk)
  have bR : ∀ a, a ≤ n → 0 ≤ coR a C i j k l ∧ coR a C i j k l ≤ 65025 * a := fun a ha => sum_bound a fun b hb => mulB (vec_u8 hC hi hj (by omega)) (vec_u8 hC (by omega) hk hl)
  refine LoopVC.of (fun a : Nat => a ≤ n) (fun a => [(1, .int .i64 i), (2, .int .i64 j), (3, .int .i64 k), (4, .int .i64 l), (5, .ptr 0 [] 0 0), (12, .int .i64 (coL a C i j k l)), (13, .int .i64 (coR a C i j k l)), (14, .int .i64 a)])
    (fun _ => [some (algV p n U C, 522)]) (fun a => n - a) 0 (by omega) ?_ ?_ ?_
  · exact (And.intro rfl (And.intro rfl (And.intro rfl (And.intro rfl (And.intro rfl (And.intro rfl (And.intro rfl (And.intro rfl (trivial)))))))))
  · exact And.intro (And.intro (algR p n U C) rfl) trivial
  · intro a ha
    refine ifVC_split (fun h => ?_) (fun h => ?_)
    · have hlt := of_decide_eq_true h
      have e1 := bL a ha
      have e2 := bR a ha
      have v1 := vec_u8 hC hi (show a < 8 by omega) hl
      have v2 := vec_u8 hC (show a < 8 by omega) hj hk
      have v3 := vec_u8 hC hi hj (show a < 8 by omega)
      have v4 := vec_u8 hC (show a < 8 by omega) hk hl
      have m1 := mulB v1 v2
      have m2 := mulB v3 v4
      refine Exists.intro 21 (And.intro (by kernel_rfl) ?_)
      (repeat (first | refine And.intro (by omega) ?_ | refine And.intro ⟨by omega, by omega⟩ ?_))
      refine Exists.intro 21 (And.intro (by kernel_rfl) ?_)
      (repeat (first | refine And.intro (by omega) ?_ | refine And.intro ⟨by omega, by omega⟩ ?_))
      have f1 : C ((l : Int).toNat * 1 + ((a : Int).toNat * 8 + ((i : Int).toNat * 64 + 0))) = vecT C i a l := by simp only [Int.toNat_natCast]; unfold vecT; congr 1; omega
      have f2 : C ((k : Int).toNat * 1 + ((j : Int).toNat * 8 + ((a : Int).toNat * 64 + 0))) = vecT C a j k := by simp only [Int.toNat_natCast]; unfold vecT; congr 1; omega
      have f3 : C ((a : Int).toNat * 1 + ((j : Int).toNat * 8 + ((i : Int).toNat * 64 + 0))) = vecT C i j a := by simp only [Int.toNat_natCast]; unfold vecT; congr 1; omega
      have f4 : C ((l : Int).toNat * 1 + ((k : Int).toNat * 8 + ((a : Int).toNat * 64 + 0))) = vecT C a k l := by simp only [Int.toNat_natCast]; unfold vecT; congr 1; omega
      refine Exists.intro (a + 1) (And.intro (by omega) (And.intro (by omega) (And.intro (And.intro rfl (And.intro rfl (And.intro rfl (And.intro rfl (And.intro rfl (And.intro (slotI ?_) (And.intro (slotI ?_) (And.intro (slotI (wrapS (by omega))) trivial)))))))) ?_)))
      · rw [f1, f2, wrapI (x := vecT C i a l) (by omega), wrapI (x := vecT C a j k) (by omega), wrapI (x := vecT C i a l * vecT C a j k) (by omega), wrapI (by omega)]
        rfl
      · rw [f3, f4, wrapI (x := vecT C i j a) (by omega), wrapI (x := vecT C a k l) (by omega), wrapI (x := vecT C i j a * vecT C a k l) (by omega), wrapI (by omega)]
        rfl
      · exact And.intro (And.intro (algR p n U C) rfl) trivial
    · have hge := of_decide_eq_false h
      obtain rfl : a = n := by omega
      have e1 := bL a (Nat.le_refl _)
      have e2 := bR a (Nat.le_refl _)
      refine Exists.intro 9 (And.intro (by kernel_rfl) ?_)
      refine Exists.intro (.int .u8 (coL a C i j k l % p)) (And.intro (And.intro rfl (And.intro rfl (Spec.mono (l01Mod_s p _ hp (by omega)) fun r m h => h.1))) ?_)
      refine Exists.intro (.int .u8 (coR a C i j k l % p)) (And.intro (And.intro rfl (And.intro rfl (Spec.mono (l01Mod_s p _ hp (by omega)) fun r m h => h.1))) ?_)
      exact And.intro rfl (And.intro rfl rfl)

/-- the quadruple that is told -/
def coFaultAt (p : Int) (n : Nat) (C : Nat → Int) (g : Nat → Int) : Prop :=
  ∃ i j k l : Nat, i < n ∧ j < n ∧ k < n ∧ l < n ∧ coOk p n C i j k l = false ∧
    (∀ i' j' k' l', i' < n → j' < n → k' < n → l' < n → (i' < i ∨ (i' = i ∧ j' < j) ∨ (i' = i ∧ j' = j ∧ k' < k) ∨ (i' = i ∧ j' = j ∧ k' = k ∧ l' < l)) → coOk p n C i' j' k' l' = true) ∧ g 0 = i ∧ g 1 = j ∧ g 2 = k ∧ g 3 = l
def CoQ2 (p : Int) (n : Nat) (C : Nat → Int) (r : SV) (m : Mem) : Prop :=
  (coAss p n C ∧ r = .tcons .nilsl (.tcons (.bool false) .tnil)) ∨ ∃ id g, coFaultAt p n C g ∧ r = .tcons (.sl id 0 4 4) (.tcons (.bool true) .tnil) ∧ blockOf m id = some (.ints .i64 4 g, 4)
theorem CoQ2.yes {p : Int} {n : Nat} {C : Nat → Int} {m : Mem} (h : coAss p n C) : CoQ2 p n C (.tcons .nilsl (.tcons (.bool false) .tnil)) m := .inl ⟨h, rfl⟩
theorem CoQ2.no {p : Int} {n : Nat} {C g : Nat → Int} {m : Mem} {id : Nat} (h : coFaultAt p n C g) (hb : blockOf m id = some (.ints .i64 4 g, 4)) : CoQ2 p n C (.tcons (.sl id 0 4 4) (.tcons (.bool true) .tnil)) m := .inr ⟨id, g, h, rfl, hb⟩

/-- a number's four digits -/
def num (n i j k l : Nat) : Nat := ((i * n + j) * n + k) * n + l
theorem digit {n a b : Nat} (hb : b < n) : (a * n + b) / n = a ∧ (a * n + b) % n = b := by
  have hn : 0 < n := by omega
  constructor
  · rw [Nat.add_comm, Nat.add_mul_div_right _ _ hn, Nat.div_eq_of_lt hb, Nat.zero_add]
  · rw [Nat.add_comm, Nat.add_mul_mod_self_right, Nat.mod_eq_of_lt hb]
theorem digit_lt {n a b c d : Nat} (hb : b < n) (hd : d < n) : a * n + b < c * n + d ↔ a < c ∨ (a = c ∧ b < d) := by
  constructor
  · intro h
    rcases Nat.lt_trichotomy a c with h1 | h1 | h1
    · exact .inl h1
    · subst h1; exact .inr ⟨rfl, by omega⟩
    · have : (c + 1) * n ≤ a * n := Nat.mul_le_mul_right n h1
      rw [Nat.succ_mul] at this
      omega
  · rintro (h | ⟨rfl, h⟩)
    · have : (a + 1) * n ≤ c * n := Nat.mul_le_mul_right n h
      rw [Nat.succ_mul] at this
      omega
    · omega
theorem num_digits {n m : Nat} (hn : 0 < n) : num n (m / (n * n * n)) (m / (n * n) % n) (m / n % n) (m % n) = m := by
  unfold num
  have h1 : m / n * n + m % n = m := by rw [Nat.mul_comm]; exact Nat.div_add_mod m n
  have h2 : m / (n * n) * n + m / n % n = m / n := by rw [← Nat.div_div_eq_div_mul, Nat.mul_comm]; exact Nat.div_add_mod _ n
  have h3 : m / (n * n * n) * n + m / (n * n) % n = m / (n * n) := by rw [← Nat.div_div_eq_div_mul, Nat.mul_comm]; exact Nat.div_add_mod _ n
  rw [h3, h2, h1]
theorem num_of {n i j k l : Nat} (hj : j < n) (hk : k < n) (hl : l < n) : num n i j k l / (n * n * n) = i ∧ num n i j k l / (n * n) % n = j ∧ num n i j k l / n % n = k ∧ num n i j k l % n = l := by
  have d1 := digit (a := (i * n + j) * n + k) hl
  have d2 := digit (a := i * n + j) hk
  have d3 := digit (a := i) hj
  unfold num
  refine ⟨?_, ?_, ?_, d1.2⟩
  · rw [← Nat.div_div_eq_div_mul, ← Nat.div_div_eq_div_mul, d1.1, d2.1, d3.1]
  · rw [← Nat.div_div_eq_div_mul, d1.1, d2.1, d3.2]
  · rw [d1.1, d2.2]
theorem num_lt {n i j k l i' j' k' l' : Nat} (hj : j < n) (hk : k < n) (hl : l < n) (hj' : j' < n) (hk' : k' < n) (hl' : l' < n) :
    num n i' j' k' l' < num n i j k l ↔ (i' < i ∨ (i' = i ∧ j' < j) ∨ (i' = i ∧ j' = j ∧ k' < k) ∨ (i' = i ∧ j' = j ∧ k' = k ∧ l' < l)) := by
  unfold num
  rw [digit_lt hl' hl, digit_lt hk' hk]
  constructor
  · rintro (h | ⟨h, h4⟩)
    · rcases h with h | ⟨h, h3⟩
      · rcases (digit_lt hj' hj).1 h with h5 | ⟨h5, h6⟩
        · exact .inl h5
        · exact .inr (.inl ⟨h5, h6⟩)
      · have e1 := digit (a := i') hj'
        have e2 := digit (a := i) hj
        rw [h] at e1
        have a1 : i' = i := by rw [← e1.1, e2.1]
        have a2 : j' = j := by rw [← e1.2, e2.2]
        exact .inr (.inr (.inl ⟨a1, a2, h3⟩))
    · have c1 := digit (a := i' * n + j') hk'
      have c2 := digit (a := i * n + j) hk
      rw [h] at c1
      have a3 : k' = k := by rw [← c1.2, c2.2]
      have h : i' * n + j' = i * n + j := by rw [← c1.1, c2.1]
      have e1 := digit (a := i') hj'
      have e2 := digit (a := i) hj
      rw [h] at e1
      have a1 : i' = i := by rw [← e1.1, e2.1]
      have a2 : j' = j := by rw [← e1.2, e2.2]
      exact .inr (.inr (.inr ⟨a1, a2, a3, h4⟩))
  · rintro (h | ⟨rfl, h⟩ | ⟨rfl, rfl, h⟩ | ⟨rfl, rfl, rfl, h⟩)
    · exact .inl (.inl ((digit_lt hj' hj).2 (.inl h)))
    · exact .inl (.inl ((digit_lt hj' hj).2 (.inr ⟨rfl, h⟩)))
    · exact .inl (.inr ⟨rfl, h⟩)
    · exact .inr ⟨rfl, h⟩
theorem num_max {n i j k l : Nat} (hi : i < n) (hj : j < n) (hk : k < n) (hl : l < n) : num n i j k l < n * n * n * n := by
  unfold num
  have s1 : (i + 1) * n ≤ n * n := Nat.mul_le_mul_right n hi
  rw [Nat.succ_mul] at s1
  have s2 : (i * n + j + 1) * n ≤ n * n * n := Nat.mul_le_mul_right n (by omega)
  rw [Nat.succ_mul] at s2
  have s3 : ((i * n + j) * n + k + 1) * n ≤ n * n * n * n := Nat.mul_le_mul_right n (by omega)
  rw [Nat.succ_mul] at s3
  omega
theorem max4 {n : Nat} (hn : n ≤ 8) : n * n ≤ 64 ∧ n * n * n ≤ 512 ∧ n * n * n * n ≤ 4096 := by
  have a : n * n ≤ 8 * 8 := Nat.mul_le_mul hn hn
  have b : n * n * n ≤ 8 * 8 * 8 := Nat.mul_le_mul a hn
  have c : n * n * n * n ≤ 8 * 8 * 8 * 8 := Nat.mul_le_mul b hn
  omega

/-- the quadruple with the number m is no fault -/
def numOk (p : Int) (n : Nat) (C : Nat → Int) (m : Nat) : Bool := coOk p n C (m / (n * n * n)) (m / (n * n) % n) (m / n % n) (m % n)

theorem coFault_mk {p : Int} {n m : Nat} {C g : Nat → Int} (h1n : 1 ≤ n) (hlt : m < n * n * n * n) (hall : ∀ m', m' < m → numOk p n C m' = true) (hc : numOk p n C m = false)
    (g0 : g 0 = ((m / (n * n * n) : Nat) : Int)) (g1 : g 1 = ((m / (n * n) % n : Nat) : Int)) (g2 : g 2 = ((m / n % n : Nat) : Int)) (g3 : g 3 = ((m % n : Nat) : Int)) : coFaultAt p n C g := by
  have p3 : 0 < n * n * n := Nat.mul_pos (Nat.mul_pos h1n h1n) h1n
  have b1 : m / (n * n * n) < n := by rw [Nat.div_lt_iff_lt_mul p3, Nat.mul_comm n (n * n * n)]; omega
  have b2 : m / (n * n) % n < n := Nat.mod_lt _ h1n
  have b3 : m / n % n < n := Nat.mod_lt _ h1n
  have b4 : m % n < n := Nat.mod_lt _ h1n
  refine ⟨_, _, _, _, b1, b2, b3, b4, hc, fun i' j' k' l' h1 h2 h3 h4 h5 => ?_, g0, g1, g2, g3⟩
  have hlt' := (num_lt b2 b3 b4 h2 h3 h4).2 h5
  rw [num_digits h1n] at hlt'
  have := hall _ hlt'
  obtain ⟨e1, e2, e3, e4⟩ := num_of (i := i') h2 h3 h4
  unfold numOk at this
  rw [e1, e2, e3, e4] at this
  exact this

theorem natMul (a b : Nat) : (a : Int) * (b : Int) = ((a * b : Nat) : Int) := by simp
theorem wrapN {a : Nat} (h : a ≤ 1000000000) : IntKind.i64.wrap (a : Int) = a := wrapI (by omega)

theorem l02Fault_s (p : Int) (n : Nat) (U C : Nat → Int) (hp : 0 < p ∧ p < 256) (hn : n ≤ 8) (h1n : 1 ≤ n) (hC : isU8 512 C) :
    Spec Try.prog 69 [algV p n U C] [] (CoQ2 p n C) := by
  refine (Spec.of_vc tabOK tabEq Try.func69 rfl (by kernel_rfl) rfl rfl ?_)
  obtain ⟨m2, m3, m4⟩ := max4 hn
  have p2 : 0 < n * n := Nat.mul_pos h1n h1n
  have p3 : 0 < n * n * n := Nat.mul_pos p2 h1n
  have w2 : IntKind.i64.wrap ((n : Int) * n) = ((n * n : Nat) : Int) := by rw [natMul, wrapN (by omega)]
  have w3 : IntKind.i64.wrap (((n * n : Nat) : Int) * n) = ((n * n * n : Nat) : Int) := by rw [natMul, wrapN (by omega)]
  have w4 : IntKind.i64.wrap (((n * n * n : Nat) : Int) * n) = ((n * n * n * n : Nat) : Int) := by rw [natMul, wrapN (by omega)]
  refine LoopVC.of (fun m : Nat => m ≤ n * n * n * n ∧ ∀ m', m' < m → numOk p n C m' = true) (fun m => [(1, .ptr 0 [] 0 0), (2, .nilsl), (3, .bool false), (4, .int .i64 n), (5, .int .i64 m)])
    (fun _ => [some (algV p n U C, 522)]) (fun m => n * n * n * n - m) 0 ⟨by omega, fun m' h => by omega⟩ ?_ ?_ ?_
  · exact (And.intro rfl (And.intro rfl (And.intro rfl (And.intro rfl (And.intro rfl (trivial))))))
  · exact And.intro (And.intro (algR p n U C) rfl) trivial
  · rintro m ⟨hm, hall⟩
    refine ifVC_split (fun h => ?_) (fun h => ?_)
    · have hlt : m < n * n * n * n := by
        have h := of_decide_eq_true h
        rw [w2, w3, w4] at h
        omega
      have b1 : m / (n * n * n) < n := by rw [Nat.div_lt_iff_lt_mul p3, Nat.mul_comm n (n * n * n)]; omega
      have b2 : m / (n * n) % n < n := Nat.mod_lt _ h1n
      have b3 : m / n % n < n := Nat.mod_lt _ h1n
      have b4 : m % n < n := Nat.mod_lt _ h1n
      have q3 : IntKind.i64.wrap ((m : Int).tdiv ((n * n * n : Nat) : Int)) = ((m / (n * n * n) : Nat) : Int) := by
        rw [Int.tdiv_eq_ediv_of_nonneg (by omega), ← Int.natCast_ediv, wrapN (by omega)]
      have q2 : IntKind.i64.wrap ((m : Int).tdiv ((n * n : Nat) : Int)) = ((m / (n * n) : Nat) : Int) := by
        have := Nat.div_le_self m (n * n)
        rw [Int.tdiv_eq_ediv_of_nonneg (by omega), ← Int.natCast_ediv, wrapN (by omega)]
      have q1 : IntKind.i64.wrap ((m : Int).tdiv (n : Int)) = ((m / n : Nat) : Int) := by
        have := Nat.div_le_self m n
        rw [Int.tdiv_eq_ediv_of_nonneg (by omega), ← Int.natCast_ediv, wrapN (by omega)]
      have r : ∀ a : Nat, (a : Int).tmod (n : Int) = ((a % n : Nat) : Int) := fun a => by rw [Int.tmod_eq_emod_of_nonneg (by omega), ← Int.natCast_emod]
      have call : ∀ a b c d : Int, a = ((m / (n * n * n) : Nat) : Int) → b = ((m / (n * n) % n : Nat) : Int) → c = ((m / n % n : Nat) : Int) → d = ((m % n : Nat) : Int) → Spec Try.prog 86 [algV p n U C, .int .i64 a, .int .i64 b, .int .i64 c, .int .i64 d] []
          (Ret (.tcons (.int .u8 (coL n C (m / (n * n * n)) (m / (n * n) % n) (m / n % n) (m % n) % p)) (.tcons (.int .u8 (coR n C (m / (n * n * n)) (m / (n * n) % n) (m / n % n) (m % n) % p)) .tnil))) := by
        rintro a b c d rfl rfl rfl rfl
        exact l02Sums_s p n U C _ _ _ _ hp hn hC (by omega) (by omega) (by omega) (by omega)
      refine Exists.intro 25 (And.intro (by kernel_rfl) ?_)
      refine And.intro (by rw [w2, w3]; omega) ?_
      refine And.intro (by rw [w2]; omega) ?_
      (repeat (first | refine And.intro (by omega) ?_ | refine And.intro ⟨by omega, by omega⟩ ?_))
      refine And.intro trivial (Spec.mono (call _ _ _ _ (by rw [w2, w3, q3]) (by rw [w2, q2, r]) (by rw [q1, r]) (by rw [r])) ?_)
      rintro r' m' ⟨rfl, rfl⟩
      refine ifVC_split (fun hc => ?_) (fun hc => ?_)
      · have hc : numOk p n C m = false := by
          have hc := hc
          simp only [bne_iff_ne, ne_eq] at hc
          simp [numOk, coOk, hc]
        exact CoQ2.no (coFault_mk h1n hlt hall hc (by rw [← q3, ← w3, ← w2]; rfl) (by rw [← r, ← q2, ← w2]; rfl) (by rw [← r, ← q1]; rfl) (by rw [← r]; rfl)) rfl
      · have hc : numOk p n C m = true := by
          have hc := hc
          simp only [bne_eq_false_iff_eq] at hc
          simp [numOk, coOk, hc]
        refine Exists.intro (m + 1) (And.intro ⟨by omega, fun m' hm' => ?_⟩ (And.intro (by omega) (And.intro ?_ ?_)))
        · by_cases hmm : m' = m
          · subst hmm; exact hc
          · exact hall m' (by omega)
        · exact And.intro rfl (And.intro rfl (And.intro rfl (And.intro rfl (And.intro (slotI (wrapS (by omega))) trivial))))
        · exact And.intro (And.intro (algR p n U C) rfl) trivial
    · have hge : ¬ m < n * n * n * n := by
        have h := of_decide_eq_false h
        rw [w2, w3, w4] at h
        omega
      refine CoQ2.yes fun i j k l hi hj hk hl => ?_
      have := hall (num n i j k l) (by have := num_max hi hj hk hl; omega)
      obtain ⟨e1, e2, e3, e4⟩ := num_of (i := i) hj hk hl
      unfold numOk at this
      rw [e1, e2, e3, e4] at this
      exact this
end Go.Proofs.Ytcocapkdpbdmdaa
