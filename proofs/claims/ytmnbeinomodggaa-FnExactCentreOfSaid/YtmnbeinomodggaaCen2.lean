/- Lists of vectors as results, told by the space alone; CentreOf, the program's side and the law. -/
import Derived.Test.YtmnbeinomodggaaCentre
import Derived.Test.YtmnbeinomodggaaKern
import Derived.Test.YtmnbeinomodggaaVecs
set_option linter.unusedVariables false
set_option maxRecDepth 100000
set_option maxHeartbeats 4000000
namespace Go.Proofs.Ytmnbeinomodggaa
open M

/-- a list of vectors, the reduced one of S, or an error e; b: an empty list is nil -/
def ListQ (b : Bool) (e : Int) (p : Int) (S : (Nat → Int) → Prop) (r : SV) (m : Mem) : Prop :=
  (e ≠ 0 ∧ r = .tcons .nilsl (.tcons (.int .i64 e) .tnil)) ∨
  (e = 0 ∧ ∃ id k c A, (b = true → k ≠ 0) ∧ r = .tcons (.sl id 0 k c) (.tcons (.int .i64 0) .tnil) ∧ RedL p S k A ∧ k ≤ c ∧ blockOf m id = some (.ints .u8 (k * 8) A, c * 8)) ∨
  (e = 0 ∧ b = true ∧ ∃ A, r = .tcons .nilsl (.tcons (.int .i64 0) .tnil) ∧ RedL p S 0 A)
/-- the same, with that list as the one block -/
def ListR (b : Bool) (e : Int) (p : Int) (S : (Nat → Int) → Prop) (r : SV) (m : Mem) : Prop :=
  (e ≠ 0 ∧ r = .tcons .nilsl (.tcons (.int .i64 e) .tnil) ∧ m = []) ∨
  (e = 0 ∧ ∃ k c A, (b = true → k ≠ 0) ∧ r = .tcons (.sl 0 0 k c) (.tcons (.int .i64 0) .tnil) ∧ RedL p S k A ∧ m = [some (.ints .u8 (k * 8) A, c * 8)]) ∨
  (e = 0 ∧ b = true ∧ ∃ A, r = .tcons .nilsl (.tcons (.int .i64 0) .tnil) ∧ RedL p S 0 A ∧ m = [])
theorem ListQ.one {P : Program} {f : Nat} {args : List SV} {b : Bool} {e p : Int} {S : (Nat → Int) → Prop} (h : Spec P f args [] (ListQ b e p S)) : Spec P f args [] (ListR b e p S) := by
  refine Spec.single h ?_
  rintro r m' (⟨h1, rfl⟩ | ⟨h1, id, k, c, A, h0, rfl, h2, h3, hb⟩ | ⟨h1, h0, A, rfl, h2⟩)
  · exact .inl ⟨.inl ⟨h1, rfl, rfl⟩, rfl⟩
  · exact .inr ⟨id, _, _, hb, rfl, by simp [SV.ids], .inr (.inl ⟨h1, k, c, A, h0, rfl, h2, rfl⟩)⟩
  · exact .inl ⟨.inr (.inr ⟨h1, h0, A, rfl, h2, rfl⟩), rfl⟩
theorem redL_uniq {p : Int} {S : (Nat → Int) → Prop} {k k' : Nat} {A A' : Nat → Int} (hp : 1 < p) (hS : Space p 8 S) (h : RedL p S k A) (h' : RedL p S k' A') : k = k' ∧ ∀ j, j < k * 8 → A j = A' j := by
  obtain ⟨h1, h2, h3⟩ := Red.uniq hp hS h h'
  refine ⟨h1, fun j hj => ?_⟩
  have := h3 (j / 8) (by omega) (j % 8) (by omega)
  unfold partF at this
  rw [show j % 8 + j / 8 * 8 = j by omega] at this
  exact this
/-- lists from a list that may be nil -/
theorem ListQ.of_listV {e p : Int} {S : (Nat → Int) → Prop} {id k c : Nat} {A : Nat → Int} {m : Mem} (h0 : e = 0) (h : RedL p S k A) (hb : k ≠ 0 → blockOf m id = some (.ints .u8 (k * 8) A, c * 8) ∧ k ≤ c) : ListQ true e p S (.tcons (listV id k c) (.tcons (.int .i64 0) .tnil)) m := by
  by_cases hk : k = 0
  · subst hk
    exact .inr (.inr ⟨h0, rfl, A, rfl, h⟩)
  · refine .inr (.inl ⟨h0, id, k, c, A, fun _ => hk, ?_, h, (hb hk).2, (hb hk).1⟩)
    unfold listV; rw [if_neg hk]

/-! ### steps -/
theorem memHd {m : Mem} {a b : SV × Nat} (h0 : blockOf m 0 = some a) (h1 : blockOf m 1 = some b) : ∃ R, m = some a :: some b :: R := by
  match m, h0, h1 with
  | [], h, _ => cases h
  | [x], _, h => cases h
  | x :: y :: R, h0, h1 => exact ⟨R, by rw [show x = some a from h0, show y = some b from h1]⟩
section
variable {P : Program} {T : Tab} {N : Nat} {ops : Array Oper} {o : Oper} {r : List Oper} {s : Slots} {m : Mem} {K : Slots → Mem → Prop} {t b b2 n cap o2 m2 c2 es by_ n1 n2 c d2 l : Nat} {k : IntKind} {f g u : Nat → Int} {cl : Call} {a x : Operand} {v : SV} {Kd : Option Tmp → SV → Slots → Mem → Prop}
/-- what is stored over the whole of a block that has just been made -/
theorem opsVC_putNew (hg : o.guard = none) (ho : o.op = .store t a x) (ha : ev s a = some (.ptr m.length [] 0 0)) (hx : ev s x = some (.ints k l u)) (ht : ((T.ti t).known && ((T.ti t).agg == some l)) = true)
    (hk : ∀ F M', (∀ j, j < l → F j = u j) → Plus m m.length (.ints k l F) c M' → opsVC P T N ops r (sset N s o.dst .undef) M' K) : opsVC P T N ops (o :: r) s (m ++ [some (.ints k l f, c)]) K := by
  refine opsVC_storeR hg ho ha hx ht (blockOf_snoc _ _) (by omega) ?_
  have e := setBlock_pre m [some (SV.ints k l f, c)] 0 (.ints k l (updR f 0 l u))
  rw [Nat.add_zero] at e
  rw [e]
  exact hk _ _ (fun j hj => by unfold updR; rw [if_pos (by omega)]; rfl) (Plus.snoc _ _ _ _)
theorem readsAt_nil {Kr : Slots → Prop} (h : Kr s) : readsAt T N m ops [] s Kr := h
theorem lateAppN {v0 : SV} {oo : Option Oper} (h0 : oo = some o) (ho : o.op = .call cl) (hc : cl.callee = .builtin .append) (hts : cl.argTypes.toList = [t, t]) (hx : evs s cl.args.toList = some [v0, .sl b2 o2 m2 c2]) (hv0 : v0 = .sl b 0 n cap) (ht : T.ti t = .slice es) (hap : T.app t = some by_)
    (hb : blockOf m b = some (.ints k n1 f, c)) (hb2 : blockOf m b2 = some (.ints k n2 g, d2)) (hin : o2 + m2 * es ≤ n2) (hown : T.own ≤ b) (hsz : n * es ≤ n1 ∧ c = cap * es ∧ n ≤ cap ∧ (n + m2) * by_ ≤ 140737488355328 ∧ n + m2 ≤ 4611686018427387904)
    (hk : ∀ cap' F M', n + m2 ≤ cap' → (∀ j, j < n * es → F j = f j) → (∀ j, F (n * es + j) = g (j + o2)) → Plus m b (.ints k ((n + m2) * es) F) (cap' * es) M' → Kd o.dst (.sl m.length 0 (n + m2) cap') s M') : lateAppVC T oo s m Kd := by
  subst h0 hv0
  simp only [lateAppVC, ho, hc, hts, hx, appAny, Nat.beq_refl, appVC, ht, hap, hb2]
  refine ⟨hin, .inr (.inl ?_)⟩
  simp only [appNew, hb]
  exact chk_iff.2 ⟨by
    have e1 : ikEq k k = true := by cases k <;> rfl
    have e2 : Nat.ble T.own b = true := Nat.ble_eq_true_of_le hown
    rw [e1, e2]; rfl, hsz, fun cap' hcap => hk cap' _ _ hcap (fun j hj => if_pos hj) (fun j => by show (if n * es + j < n * es then _ else g (n * es + j - n * es + o2)) = _; rw [if_neg (by omega), show n * es + j - n * es + o2 = j + o2 by omega]) (Plus.forget m _ _ b)⟩
theorem lateAppE {v0 : SV} {oo : Option Oper} (h0 : oo = some o) (ho : o.op = .call cl) (hc : cl.callee = .builtin .append) (hts : cl.argTypes.toList = [t, t]) (hx : evs s cl.args.toList = some [v0, .sl b2 o2 m2 c2]) (hv0 : v0 = .nilsl) (ht : T.ti t = .slice es) (hap : T.app t = some by_)
    (hb2 : blockOf m b2 = some (.ints k n2 g, d2)) (hin : o2 + m2 * es ≤ n2) (hsz : 0 < m2 ∧ m2 * by_ ≤ 140737488355328 ∧ m2 ≤ 4611686018427387904)
    (hk : ∀ cap' F M', m2 ≤ cap' → (∀ j, F j = g (j + o2)) → Plus m m.length (.ints k (m2 * es) F) (cap' * es) M' → Kd o.dst (.sl m.length 0 m2 cap') s M') : lateAppVC T oo s m Kd := by
  subst h0 hv0
  simp only [lateAppVC, ho, hc, hts, hx, appAny, Nat.beq_refl, appVC, ht, hap, hb2]
  exact ⟨hin, .inr (.inr (chk_iff.2 ⟨rfl, hsz, fun cap' hcap => hk cap' _ _ hcap (fun _ => rfl) (Plus.snoc _ _ _ _)⟩))⟩
end

/-! ### CentreOf -/
/-- e(i) e(j) less e(j) e(i), for all j in a row -/
def cimg (p : Int) (T : Nat → Int) (i q : Nat) : Int := addM p (vecT T i (q / 8)) (p - 1) (vecT T (q / 8) i) (q % 8)
theorem less_mod (p a b : Int) : (a + (p - 1) * b) % p = (a + -1 * b) % p := by
  rw [show a + (p - 1) * b = a + -1 * b + p * b by grind, Int.add_mul_emod_self_left]
theorem centre_ker {p n : Nat} {T : Nat → Int} (hn : n ≤ 8) (v : Nat → Int) : KerG p n (n * 8) (fun i q => cimg p T i q) v ↔ CenS p n T n v := by
  have e : ∀ l j, l < n → j < 8 → VecP p n v → apW p (fun i q => cimg p T i q) v (l * 8 + j) = apF p (commF p n T l) v j := fun l j hl hj hv => by
    rw [apF_sum]
    unfold apW
    refine congrArg (· % (p : Int)) (sumN_congr 8 fun i hi => ?_)
    by_cases hin : i < n
    · unfold commF cimg
      rw [show (i * 8 + j) / 8 = i by omega, if_pos hin, show (i * 8 + j) % 8 = j by omega]
      show v i * addM (↑p) (vecT T i ((l * 8 + j) / 8)) (↑p - 1) (vecT T ((l * 8 + j) / 8) i) ((l * 8 + j) % 8) = _
      rw [show (l * 8 + j) / 8 = l by omega, show (l * 8 + j) % 8 = j by omega]
      unfold addM
      rw [less_mod]
    · rw [hv.out i (by omega) hi, Int.zero_mul, Int.zero_mul]
  refine and_congr_right fun hv => ⟨fun h l hl j hj => by rw [← e l j hl hj hv]; exact h _ (by omega), fun h q hq => ?_⟩
  have := e (q / 8) (q % 8) (by omega) (by omega) hv
  rw [show q / 8 * 8 + q % 8 = q by omega] at this
  rw [this]; exact h _ (by omega) _ (by omega)

/-- the memory of the outer loop: the algebra, the slices, and what came behind -/
abbrev cmem (p n : Nat) (U T : Nat → Int) (H : Nat → SV) (R : Mem) : Mem := some (algV p n U T, 522) :: some (.vec n H, n) :: R
def rowV (id k c : Nat) : SV := if k = 0 then .nilsl else .sl id 0 k c
theorem rowV_leaf (id k c : Nat) : (rowV id k c).leaf = true := by unfold rowV; split <;> rfl
theorem rowV_ids {id k c : Nat} {i : Nat} (h : i ∈ (rowV id k c).ids) : k ≠ 0 ∧ i = id := by
  unfold rowV at h
  by_cases e : k = 0
  · rw [if_pos e] at h; cases h
  · rw [if_neg e] at h; simp [SV.ids] at h; exact ⟨e, h⟩
theorem updV_twice {H : Nat → SV} {i j : Nat} {v w : SV} (e : j = i) : updV (updV H i v) j w = updV H i w := by
  subst e; funext k; unfold updV; split <;> rfl
theorem cmem_upd {p n : Nat} {U T : Nat → Int} {H : Nat → SV} {R : Mem} {i : Nat} {v : SV} (h : Clo (cmem p n U T H R)) (hv : ∀ q ∈ v.ids1, q < R.length + 2) : Clo (cmem p n U T (updV H i v) R) := fun id u c hb q hq => by
  match id with
  | 0 => exact h 0 u c hb q hq
  | 1 =>
    cases hb
    obtain ⟨k, hk, hqk⟩ := vec_ids.1 hq
    unfold updV at hqk
    split at hqk
    · exact hv q hqk
    · exact h 1 _ _ rfl q (vec_ids.2 ⟨k, hk, hqk⟩)
  | id + 2 => exact h (id + 2) u c hb q hq
theorem rowV_ids1 {id k c i : Nat} (h : i ∈ (rowV id k c).ids1) : k ≠ 0 ∧ i = id := by
  unfold rowV at h
  by_cases e : k = 0
  · rw [if_pos e] at h; cases h
  · rw [if_neg e] at h; simp [SV.ids1] at h; exact ⟨e, h⟩
structure CO (p n : Nat) (U T : Nat → Int) (x : Nat × (Nat → SV) × (Nat → Nat) × (Nat → Nat) × (Nat → Nat → Int) × Mem) : Prop where
  i : x.1 ≤ n
  nil : ∀ l, x.1 ≤ l → x.2.1 l = .nilsl
  sl : ∀ l, l < x.1 → x.2.1 l = .sl (x.2.2.1 l + 2) 0 (n * 8) (x.2.2.2.1 l)
  row : ∀ l, l < x.1 → blockOf x.2.2.2.2.2 (x.2.2.1 l) = some (.ints .u8 (n * 8) (x.2.2.2.2.1 l), x.2.2.2.1 l * 1)
  val : ∀ l, l < x.1 → ∀ q, q < n * 8 → x.2.2.2.2.1 l q = cimg p T l q
  clo : Clo (cmem p n U T x.2.1 x.2.2.2.2.2)
structure CJ (p n : Nat) (U T : Nat → Int) (H : Nat → SV) (R : Mem) (i : Nat) (y : Nat × (Nat → Int) × Nat × Nat × Mem) : Prop where
  j : y.1 ≤ n
  val : ∀ q, q < y.1 * 8 → y.2.1 q = cimg p T i q
  b : y.1 ≠ 0 → R.length ≤ y.2.2.1 ∧ blockOf y.2.2.2.2 y.2.2.1 = some (.ints .u8 (y.1 * 8) y.2.1, y.2.2.2.1 * 1) ∧ y.1 * 8 ≤ y.2.2.2.1
  old : ∀ q, q < R.length → blockOf y.2.2.2.2 q = blockOf R q
  len : R.length ≤ y.2.2.2.2.length
  clo : Clo (cmem p n U T (updV H i (rowV (y.2.2.1 + 2) (y.1 * 8) y.2.2.2.1)) y.2.2.2.2)
theorem cimg_rng {p : Int} (hp : 1 < p) (T : Nat → Int) (i q : Nat) : 0 ≤ cimg p T i q ∧ cimg p T i q < p := mod_rng (by omega) _
theorem algV_noids (p n : Int) (U T : Nat → Int) : (algV p n U T).ids = [] := by simp [algV, SV.ids]

theorem implCentre0_s (p n : Int) (U T : Nat → Int) (hU : isU8 8 U) (hT : isU8 512 T) : Spec Try.prog 8 [algV p n U T] [] (ListQ true (if algB p n U T = true then 0 else 1) p.toNat (CenS p.toNat n.toNat T n.toNat)) := by
  refine Spec.of_vc (tabOK.dir fun g => Nat.beq g 27) (tabEq.dir _) Try.func8 rfl (by kernel_rfl) rfl rfl ?_
  refine And.intro trivial (Spec.mono (isAlgebra_s p n U T hU hT) ?_)
  rintro r m ⟨rfl, rfl⟩
  refine ifVC_split (fun hc => ?_) (fun hc => ?_)
  · have hc : algB p n U T = false := by simpa using hc
    exact .inl ⟨by rw [hc]; decide, by rw [hc]; rfl⟩
  have hc : algB p n U T = true := by simpa using hc
  rw [if_pos hc]
  obtain ⟨p, n, rfl, rfl, hA⟩ := algP_of hU hT hc
  obtain ⟨hp, hp2, hn, hV, ha, hu⟩ := id hA
  have hTr : ∀ i j q, i < 8 → j < 8 → q < 8 → 0 ≤ vecT T i j q ∧ vecT T i j q < 256 := fun i j q hi hj hq => hT _ (by omega)
  refine And.intro ⟨by omega, by omega, by omega, by omega⟩ ?_
  refine LoopVC.ofR (CO p n U T) (fun x => [(1, .ptr 0 [] 0 0), (4, .sl 1 0 n n), (15, .int .i64 n), (16, .int .i64 x.1)]) (fun x => cmem p n U T x.2.1 x.2.2.2.2.2) (fun x => n - x.1) (0, (fun _ => .nilsl), (fun _ => 0), (fun _ => 0), (fun _ _ => 0), [])
    ⟨Nat.zero_le _, fun _ _ => rfl, fun l hl => absurd hl (Nat.not_lt_zero _), fun l hl => absurd hl (Nat.not_lt_zero _), fun l hl => absurd hl (Nat.not_lt_zero _), ?_⟩ (fun i => i) (RenTo.same ?_ ?_) (fun _ _ => Nat.zero_le _) ?_ ?_
  · intro id u c hb q hq
    match id with
    | 0 => cases hb; rw [algV_noids] at hq; cases hq
    | 1 => cases hb; obtain ⟨k, hk, hqk⟩ := vec_ids.1 hq; cases hqk
    | id + 2 => cases hb
  · exact (And.intro rfl (And.intro rfl (And.intro rfl (And.intro rfl (trivial)))))
  · intro i u d hb
    match i with
    | 0 => cases hb; exact ⟨_, rfl, algR _ _ _ _⟩
    | 1 => cases hb; exact ⟨_, rfl, rfl, fun _ _ => rfl⟩
    | i + 2 => cases hb
  · intro x hx
    refine OkP.of ?_ hx.clo
    simp [SV.ids]
  · rintro ⟨i, H, ρ, cp, F, R⟩ ⟨hi, hnil, hsl, hrow, hval, hclo⟩
    dsimp only at hi hnil hsl hrow hval hclo
    refine ifVC_split (fun h1 => ?_) (fun h1 => ?_)
    · have hin : i < n := by have := of_decide_eq_true h1; omega
      have hix : (i : Int).toNat * 1 + 0 = i := by omega
      (repeat (first | refine And.intro (by omega) ?_ | refine And.intro ⟨by omega, by omega⟩ ?_))
      refine LoopVC.ofR (CJ p n U T H R i) (fun y => [(1, .ptr 0 [] 0 0), (4, .sl 1 0 n n), (5, .int .i64 i), (15, .int .i64 n), (16, .int .i64 i), (20, .int .i64 n), (21, .int .i64 y.1)]) (fun y => cmem p n U T (updV H i (rowV (y.2.2.1 + 2) (y.1 * 8) y.2.2.2.1)) y.2.2.2.2) (fun y => n - y.1) (0, (fun _ => 0), 0, 0, R)
        ⟨Nat.zero_le _, fun q hq => by have hq : q < 0 * 8 := hq; omega, fun hne => absurd rfl hne, fun _ _ => rfl, Nat.le_refl _, cmem_upd hclo fun q hq => absurd rfl (rowV_ids1 (k := 0) hq).1⟩ (fun i => i) (RenTo.same ?_ ?_) (fun _ _ => Nat.zero_le _) ?_ ?_
      · exact (And.intro rfl (And.intro rfl (And.intro rfl (And.intro rfl (And.intro rfl (And.intro rfl (And.intro rfl (trivial))))))))
      · intro id u d hb
        match id with
        | 0 => cases hb; exact ⟨_, rfl, algR _ _ _ _⟩
        | 1 =>
          cases hb
          refine ⟨_, rfl, rfl, fun k hk => ?_⟩
          show H k = updV H i (rowV (0 + 2) (0 * 8) 0) k
          unfold updV
          by_cases e : k = i
          · rw [if_pos e, e]; exact hnil i (Nat.le_refl _)
          · rw [if_neg e]
        | id + 2 => exact ⟨u, hb, eqv_refl u⟩
      · intro x hx
        refine OkP.of ?_ hx.clo
        simp [SV.ids]
      · rintro ⟨j, G, id, c, R1⟩ ⟨hj, hG, hB, hO, hL, hC⟩
        dsimp only at hj hG hB hO hL hC
        refine ifVC_split (fun h2 => ?_) (fun h2 => ?_)
        · have hjn : j < n := by have := of_decide_eq_true h2; omega
          (repeat (first | refine And.intro (by omega) ?_ | refine And.intro ⟨by omega, by omega⟩ ?_))
          refine Exists.intro 19 (And.intro (by kernel_rfl) ?_)
          (repeat (first | refine And.intro (by omega) ?_ | refine And.intro ⟨by omega, by omega⟩ ?_))
          have hw : IntKind.i64.wrap ((p : Int) - 1) = p - 1 := wrapI (by omega)
          refine Exists.intro (.ints .u8 8 (addM p (vecT T i j) (p - 1) (vecT T j i))) (And.intro (And.intro rfl (And.intro rfl (Spec.mono (addMultiple_s p (IntKind.i64.wrap (p - 1)) _ _ hV.hp (by rw [hw]; omega) (fun q hq => hTr i j q (by omega) (by omega) hq) (fun q hq => hTr j i q (by omega) (by omega) hq)) ?_))) ?_)
          · rintro r m ⟨rfl, _⟩
            rw [hw]
            rfl
          change opsVC _ _ _ _ _ _ (cmem p n U T (updV H i (rowV (id + 2) (j * 8) c)) R1 ++ [some (SV.ints .u8 8 fun _ => 0, 8)]) _
          refine opsVC_putNew rfl rfl rfl rfl rfl fun D M1 hD p1 => ?_
          obtain ⟨R2, rfl⟩ := memHd (m := M1) ((p1.old 0 (show 0 < R1.length + 2 by omega) (show 0 ≠ R1.length + 2 by omega)).trans rfl) ((p1.old 1 (show 1 < R1.length + 2 by omega) (show 1 ≠ R1.length + 2 by omega)).trans rfl)
          have l2 : R2.length = R1.length + 1 := Nat.succ.inj (Nat.succ.inj p1.len)
          have o2 : ∀ q, q < R1.length → blockOf R2 q = blockOf R1 q := fun q hq => p1.old (q + 2) (show q + 2 < R1.length + 2 by omega) (show q + 2 ≠ R1.length + 2 by omega)
          refine Exists.intro 3709 (And.intro (by kernel_rfl) ?_)
          have hat : updV H i (rowV (id + 2) (j * 8) c) ((i : Int).toNat * 1 + 0) = rowV (id + 2) (j * 8) c := by unfold updV; rw [if_pos (by omega)]
          (repeat (first | refine And.intro (by omega) ?_ | refine And.intro ⟨by omega, by omega⟩ ?_))
          refine And.intro (by rw [hat]; exact rowV_leaf _ _ _) ?_
          (repeat (first | refine And.intro (by omega) ?_ | refine And.intro ⟨by omega, by omega⟩ ?_))
          by_cases hz : j = 0
          · subst hz
            refine readsAt_nil ?_
            refine lateAppE rfl rfl rfl rfl rfl (by rw [hat]; rfl) rfl rfl p1.new (by omega) (by omega) fun cap' F' M2 hcap hF p2 => ?_
            obtain ⟨R3, rfl⟩ := memHd (m := M2) ((p2.old 0 (show 0 < R2.length + 2 by omega) (show 0 ≠ R2.length + 2 by omega)).trans rfl) ((p2.old 1 (show 1 < R2.length + 2 by omega) (show 1 ≠ R2.length + 2 by omega)).trans rfl)
            have l3 : R3.length = R2.length + 1 := Nat.succ.inj (Nat.succ.inj p2.len)
            have o3 : ∀ q, q < R2.length → blockOf R3 q = blockOf R2 q := fun q hq => p2.old (q + 2) (show q + 2 < R2.length + 2 by omega) (show q + 2 ≠ R2.length + 2 by omega)
            refine opsVC_storeV rfl rfl rfl rfl rfl rfl rfl (by omega) ?_
            refine Exists.intro (0 + 1, F', R2.length, cap', R3) (Exists.intro (fun i => i) (And.intro ⟨hjn, fun q hq => ?_, fun _ => ⟨?_, p2.new, hcap⟩, fun q hq => ?_, ?_, ?_⟩ (And.intro (show n - (0 + 1) < n - 0 by omega) (RenTo.same ?_ ?_))))
            · have hq : q < (0 + 1) * 8 := hq
              show F' q = _
              rw [hF, hD _ (by omega)]
              unfold cimg
              rw [show q / 8 = 0 by omega, show q % 8 = q + 0 by omega]
            · show R.length ≤ R2.length; omega
            · show blockOf R3 q = _
              rw [o3 q (by omega), o2 q (by omega)]; exact hO q hq
            · show R.length ≤ R3.length; omega
            · have := p2.clo (p1.clo hC (by simp [SV.ids])) (by simp [SV.ids])
              have := cmem_upd (v := rowV (R2.length + 2) ((0 + 1) * 8) cap') (i := i) this fun q hq => by
                obtain ⟨_, rfl⟩ := rowV_ids1 hq; show R2.length + 2 < R3.length + 2; omega
              rw [updV_twice rfl] at this
              exact this
            · exact And.intro rfl (And.intro rfl (And.intro rfl (And.intro rfl (And.intro rfl (And.intro rfl (And.intro (slotI (wrapS (by omega))) trivial))))))
            · intro id' u d hb
              match id' with
              | 0 => cases hb; exact ⟨_, rfl, algR _ _ _ _⟩
              | 1 =>
                cases hb
                refine ⟨_, rfl, rfl, fun k hk => ?_⟩
                show updV (updV H i (rowV (id + 2) (0 * 8) c)) ((i : Int).toNat * 1 + 0) (.sl (R2.length + 2) 0 8 cap') k = updV H i (rowV (R2.length + 2) ((0 + 1) * 8) cap') k
                rw [updV_twice hix]; rfl
              | id' + 2 => exact ⟨u, hb, eqv_refl u⟩
          · obtain ⟨b1, b2, b3⟩ := hB hz
            have hv0 : rowV (id + 2) (j * 8) c = .sl (id + 2) 0 (j * 8) c := by unfold rowV; rw [if_neg (by omega)]
            have hidl : id < R1.length := blockOf_lt (by rw [b2]; rfl)
            refine readsAt_nil ?_
            refine lateAppN (b := id + 2) rfl rfl rfl rfl rfl (by rw [hat, hv0]) rfl rfl ((show _ = _ from o2 id hidl).trans b2) p1.new (by omega) (Nat.zero_le _) (by omega) fun cap' F' M2 hcap hF1 hF2 p2 => ?_
            obtain ⟨R3, rfl⟩ := memHd (m := M2) ((p2.old 0 (show 0 < R2.length + 2 by omega) (show 0 ≠ id + 2 by omega)).trans rfl) ((p2.old 1 (show 1 < R2.length + 2 by omega) (show 1 ≠ id + 2 by omega)).trans rfl)
            have l3 : R3.length = R2.length + 1 := Nat.succ.inj (Nat.succ.inj p2.len)
            have o3 : ∀ q, q < R2.length → q ≠ id → blockOf R3 q = blockOf R2 q := fun q hq hne => p2.old (q + 2) (show q + 2 < R2.length + 2 by omega) (show q + 2 ≠ id + 2 by omega)
            refine opsVC_storeV rfl rfl rfl rfl rfl rfl rfl (by omega) ?_
            have e8 : j * 8 + 8 = (j + 1) * 8 := by omega
            refine Exists.intro (j + 1, F', R2.length, cap', R3) (Exists.intro (fun i => i) (And.intro ⟨hjn, fun q hq => ?_, fun _ => ⟨?_, ?_, ?_⟩, fun q hq => ?_, ?_, ?_⟩ (And.intro (show n - (j + 1) < n - j by omega) (RenTo.same ?_ ?_))))
            · have hq : q < (j + 1) * 8 := hq
              show F' q = _
              by_cases e : q < j * 8
              · rw [hF1 q (by omega)]; exact hG q e
              · have := hF2 (q - j * 8)
                rw [show j * 8 * 1 + (q - j * 8) = q by omega, hD _ (by omega)] at this
                rw [this]
                unfold cimg
                rw [show q / 8 = j by omega, show q - j * 8 + 0 = q % 8 by omega]
            · show R.length ≤ R2.length; omega
            · show blockOf R3 R2.length = some (.ints .u8 ((j + 1) * 8) F', cap' * 1)
              rw [← e8]
              have := p2.new
              rw [Nat.mul_one] at this
              exact this
            · show (j + 1) * 8 ≤ cap'; omega
            · show blockOf R3 q = _
              rw [o3 q (by omega) (by omega), o2 q (by omega)]; exact hO q hq
            · show R.length ≤ R3.length; omega
            · have := p2.clo (p1.clo hC (by simp [SV.ids])) (by simp [SV.ids])
              have := cmem_upd (v := rowV (R2.length + 2) ((j + 1) * 8) cap') (i := i) this fun q hq => by
                obtain ⟨_, rfl⟩ := rowV_ids1 hq; show R2.length + 2 < R3.length + 2; omega
              rw [updV_twice rfl] at this
              exact this
            · exact And.intro rfl (And.intro rfl (And.intro rfl (And.intro rfl (And.intro rfl (And.intro rfl (And.intro (slotI (wrapS (by omega))) trivial))))))
            · intro id' u d hb
              match id' with
              | 0 => cases hb; exact ⟨_, rfl, algR _ _ _ _⟩
              | 1 =>
                cases hb
                refine ⟨_, rfl, rfl, fun k hk => ?_⟩
                show updV (updV H i (rowV (id + 2) (j * 8) c)) ((i : Int).toNat * 1 + 0) (.sl (R2.length + 2) 0 (j * 8 + 8) cap') k = updV H i (rowV (R2.length + 2) ((j + 1) * 8) cap') k
                rw [updV_twice hix]
                unfold rowV
                rw [if_neg (by omega), e8]
              | id' + 2 => exact ⟨u, hb, eqv_refl u⟩
        · have hjn : j = n := by have := of_decide_eq_false h2; omega
          subst hjn
          obtain ⟨b1, b2, b3⟩ := hB (by omega)
          have hv0 : rowV (id + 2) (j * 8) c = .sl (id + 2) 0 (j * 8) c := by unfold rowV; rw [if_neg (by omega)]
          refine Exists.intro (i + 1, updV H i (rowV (id + 2) (j * 8) c), (fun l => if l = i then id else ρ l), (fun l => if l = i then c else cp l), (fun l => if l = i then G else F l), R1) (Exists.intro (fun i => i) (And.intro ⟨hin, fun l hl => ?_, fun l hl => ?_, fun l hl => ?_, fun l hl q hq => ?_, hC⟩ (And.intro (show j - (i + 1) < j - i by omega) (RenTo.same ?_ fun i u d hb => ⟨u, hb, eqv_refl u⟩))))
          · have hl : i + 1 ≤ l := hl
            show updV H i _ l = _
            unfold updV; rw [if_neg (by omega)]; exact hnil l (by omega)
          · have hl : l < i + 1 := hl
            show updV H i (rowV (id + 2) (j * 8) c) l = .sl ((if l = i then id else ρ l) + 2) 0 (j * 8) (if l = i then c else cp l)
            unfold updV
            by_cases e : l = i
            · rw [if_pos e, if_pos e, if_pos e, hv0]
            · rw [if_neg e, if_neg e, if_neg e]; exact hsl l (by omega)
          · have hl : l < i + 1 := hl
            show blockOf R1 (if l = i then id else ρ l) = some (.ints .u8 (j * 8) (if l = i then G else F l), (if l = i then c else cp l) * 1)
            by_cases e : l = i
            · rw [if_pos e, if_pos e, if_pos e]; exact b2
            · rw [if_neg e, if_neg e, if_neg e, hO _ (blockOf_lt (by rw [hrow l (by omega)]; rfl))]; exact hrow l (by omega)
          · have hl : l < i + 1 := hl
            show (if l = i then G else F l) q = _
            by_cases e : l = i
            · rw [if_pos e, e]; exact hG q hq
            · rw [if_neg e]; exact hval l (by omega) q hq
          · exact And.intro rfl (And.intro rfl (And.intro rfl (And.intro (slotI (wrapS (by omega))) trivial)))
    · have hin : i = n := by have := of_decide_eq_false h1; omega
      subst hin
      refine Spec.mono (kernelOf_s (cmem p i U T H R) 1 i i i i (i * 8) p H (fun l => ρ l + 2) (fun _ => 0) cp (fun _ => i * 8) (fun l => cp l * 1) F rfl (Nat.le_refl _) hsl (fun l hl => hrow l hl) (fun l hl => by omega) hclo hn (by omega) hp hp2 (fun l hl q hq => by rw [hval l hl _ (by omega)]; exact cimg_rng (by omega) T l _)) ?_
      rintro r m' ⟨id, k, c, A, hrv, hR, hb, hl, hold⟩
      refine ⟨fun q hq h => by rw [hold q hq] at h; exact h, ?_⟩
      have hR : RedL p (CenS p i T i) k A := hR.of_iff fun v => by
        refine Iff.trans ?_ (centre_ker hn.2 v)
        refine and_congr_right fun hv => forall_congr' fun q => forall_congr' fun hq => ?_
        have : apW p (fun l q => F l (q + 0)) v q = apW p (fun i q => cimg p T i q) v q := by
          unfold apW
          refine congrArg (· % (p : Int)) (sumN_congr 8 fun l hl => ?_)
          by_cases e : l < i
          · show v l * F l q = _; rw [hval l e q hq]
          · rw [hv.out l (by omega) hl, Int.zero_mul, Int.zero_mul]
        rw [this]
      by_cases hk : k = 0
      · subst hk
        have hrv : r = .nilsl := hrv
        subst hrv
        exact .inr (.inr ⟨rfl, rfl, A, rfl, hR⟩)
      · have hrv : r = .sl id 0 k c := by rw [hrv]; unfold listV; rw [if_neg hk]
        subst hrv
        exact .inr (.inl ⟨rfl, id, k, c, A, fun _ => hk, rfl, hR, (hb hk).2.2, (hb hk).2.1⟩)
theorem implCentre_s (p n : Int) (U T : Nat → Int) (hU : isU8 8 U) (hT : isU8 512 T) : Spec Try.prog 8 [algV p n U T] [] (ListR true (if algB p n U T = true then 0 else 1) p.toNat (CenS p.toNat n.toNat T n.toNat)) := ListQ.one (implCentre0_s p n U T hU hT)
theorem specCentre_s (p n : Int) (U T : Nat → Int) (hU : isU8 8 U) (hT : isU8 512 T) : Spec Try.prog 6 [algV p n U T] [] (ListR false (if algB p n U T = true then 0 else 1) p.toNat (CenS p.toNat n.toNat T n.toNat)) := by
  refine ListQ.one (Spec.mono (specCentre0_s p n U T hU hT) ?_)
  rintro r m (⟨h1, rfl⟩ | ⟨h1, k, c, A, id, h2, h3, rfl, h4⟩)
  · exact .inl ⟨by rw [h1]; decide, by rw [h1]; rfl⟩
  · have hpn : p = p.toNat := by obtain ⟨p', n', rfl, rfl, _⟩ := algP_of hU hT h1; rfl
    exact .inr (.inl ⟨by rw [if_pos h1], id, k, c, A, (fun h => by cases h), rfl, hpn ▸ h2, h3, h4⟩)
end Go.Proofs.Ytmnbeinomodggaa
