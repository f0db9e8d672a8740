/- The map back of a linear map, as far as there is one. -/
import Derived.Test.YtojfjcbblkiajaaGraph
import Derived.Test.YtojfjcbblkiajaaAlgMath
set_option linter.unusedVariables false
set_option maxRecDepth 100000
set_option maxHeartbeats 4000000
namespace Go.Proofs.Ytojfjcbblkiajaa
open M

/-- what comes out: the reduced list of the rows f(e(i)), e(i) tells the map back, or that there is none -/
def InvQ (p n : Nat) (f : Nat → Int) (r : SV) : Prop :=
  ∃ (k : Nat) (a : Nat → Nat → Int) (P : Nat → Nat), k ≤ n ∧ Red p 16 (Sp p 16 n (graphRow (fun i j => f (j + i * 8)) 8)) k a P ∧
    (((∀ i, i < k → ∀ j, j < 8 → a i j = unitV i j) ∧ ∃ B, r = .tcons (.ints .u8 64 B) (.tcons (.bool true) .tnil) ∧ ∀ q, q < 64 → B q = if q / 8 < k then a (q / 8) (8 + q % 8) else 0) ∨
     ((∃ i, i < k ∧ ∃ j, j < 8 ∧ a i j ≠ unitV i j) ∧ ∃ B, r = .tcons (.ints .u8 64 B) (.tcons (.bool false) .tnil) ∧ ∀ q, q < 64 → B q = 0))

theorem inverseMap_s (p n : Nat) (f : Nat → Int) (hp : primeB (p : Int) = true) (hp2 : 2 ≤ p ∧ p ≤ 31) (hn : 1 ≤ n ∧ n ≤ 8) (hf : ∀ q, q < 64 → 0 ≤ f q ∧ f q < p) :
    Spec Try.prog 21 [.int .i64 p, .int .i64 n, .ints .u8 64 f] [] (fun r m => InvQ p n f r ∧ m = []) := by
  refine Spec.retE (fun r hr => ?_) ?_
  · obtain ⟨k, a, P, _, _, ⟨_, B, rfl, _⟩ | ⟨_, B, rfl, _⟩⟩ := hr <;> rfl
  refine Spec.of_vc (tabOK.dir fun g => Nat.beq g 41 || Nat.beq g 40) (tabEq.dir _) Try.func21 rfl (by kernel_rfl) rfl rfl ?_
  refine And.intro ⟨by omega, by omega, by omega, by omega⟩ ?_
  refine LoopVC.ofR (fun x : Nat × (Nat → SV) => x.1 ≤ n ∧ (∀ k, k < x.1 → x.2 k = .sl 0 (k * 8) 8 8) ∧ ∀ k, x.1 ≤ k → x.2 k = .nilsl) (fun x => [(0, .int .i64 p), (5, .ptr 0 [] 0 0), (6, .ptr 1 [] 0 0), (8, .sl 2 0 n n), (15, .sl 2 0 n n), (16, .int .i64 n), (17, .int .i64 x.1)])
    (fun x => [some (.ints .u8 64 f, 64), some (.ints .u8 64 fun _ => 0, 64), some (.vec n x.2, n)]) (fun x => n - x.1) (0, fun _ => .nilsl) ⟨Nat.zero_le _, fun k hk => absurd hk (Nat.not_lt_zero _), fun _ _ => rfl⟩ (fun i => i) (RenTo.same ?_ ?_) ?_ ?_ ?_
  · exact (And.intro rfl (And.intro rfl (And.intro rfl (And.intro rfl (And.intro rfl (And.intro rfl (And.intro rfl (trivial))))))))
  · intro i u d hb
    exact ⟨u, hb, eqv_refl u⟩
  · intro x hx; exact Nat.zero_le _
  · rintro ⟨i, H⟩ ⟨hi, hH, hN⟩
    dsimp only at hi hH hN
    refine OkP.of (by simp [SV.ids]) fun id u c hb q hq => ?_
    match id with
    | 0 => cases hb; cases hq
    | 1 => cases hb; cases hq
    | 2 =>
      cases hb
      obtain ⟨k, hk, hqk⟩ := vec_ids.1 hq
      have hqk : q ∈ (H k).ids1 := hqk
      rcases Nat.lt_or_ge k i with h | h
      · rw [hH k h] at hqk; simp [SV.ids1] at hqk; subst hqk; show 0 < 3; decide
      · rw [hN k h] at hqk; cases hqk
    | id + 3 => cases hb
  · rintro ⟨i, H⟩ ⟨hi, hH, hN⟩
    dsimp only at hi hH hN
    refine ifVC_split (fun h1 => ?_) (fun h1 => ?_)
    · have h1 : i < n := by have := of_decide_eq_true h1; omega
      (repeat (first | refine And.intro (by omega) ?_ | refine And.intro ⟨by omega, by omega⟩ ?_))
      have hix : (i : Int).toNat = i := by omega
      refine Exists.intro (i + 1, updV H ((i : Int).toNat * 1 + 0) (.sl 0 ((i : Int).toNat * 8 + 0) 8 8)) (Exists.intro (fun i => i) (And.intro ⟨h1, fun k hk => ?_, fun k hk => ?_⟩ (And.intro (show n - (i + 1) < n - i by omega) (RenTo.same ?_ fun i u d hb => ⟨u, hb, eqv_refl u⟩))))
      · have hk : k < i + 1 := hk
        show updV H ((i : Int).toNat * 1 + 0) (.sl 0 ((i : Int).toNat * 8 + 0) 8 8) k = _
        unfold updV
        rw [hix]
        by_cases e : k = i * 1 + 0
        · rw [if_pos e, show k = i by omega, Nat.add_zero]
        · rw [if_neg e]; exact hH k (by omega)
      · have hk : i + 1 ≤ k := hk
        show updV H ((i : Int).toNat * 1 + 0) (.sl 0 ((i : Int).toNat * 8 + 0) 8 8) k = _
        unfold updV
        rw [if_neg (by omega)]; exact hN k (by omega)
      · exact And.intro rfl (And.intro rfl (And.intro rfl (And.intro rfl (And.intro rfl (And.intro rfl (And.intro (slotI (wrapS (by omega))) trivial))))))
    · have h1 : i = n := by have := of_decide_eq_false h1; omega
      subst h1
      (repeat (first | (with_reducible refine vc_exit ?_) | (with_reducible refine vc_ret ?_) | (with_reducible refine vc_skip ?_) | (with_reducible refine thenQ_x ?_) | (with_reducible refine thenQ_r ?_) | (with_reducible refine thenQ_n ?_) | (with_reducible refine blockQ_x rfl ?_) | (with_reducible refine blockQ_y rfl ?_) | (with_reducible refine blockQ_n ?_) | (with_reducible refine blockQ_r ?_) | (with_reducible refine vc_seq ?_) | (with_reducible refine vc_region ?_) | (with_reducible refine vc_block ?_) | (with_reducible refine vc_scope ?_) | (with_reducible refine opsVC_nil ?_)))
      refine opsVC_alloc rfl rfl rfl rfl ?_
      (repeat (first | (with_reducible refine vc_exit ?_) | (with_reducible refine vc_ret ?_) | (with_reducible refine vc_skip ?_) | (with_reducible refine thenQ_x ?_) | (with_reducible refine thenQ_r ?_) | (with_reducible refine thenQ_n ?_) | (with_reducible refine blockQ_x rfl ?_) | (with_reducible refine blockQ_y rfl ?_) | (with_reducible refine blockQ_n ?_) | (with_reducible refine blockQ_r ?_) | (with_reducible refine vc_seq ?_) | (with_reducible refine vc_region ?_) | (with_reducible refine vc_block ?_) | (with_reducible refine vc_scope ?_) | (with_reducible refine opsVC_nil ?_)))
      refine opsVC_mv rfl rfl rfl ?_
      refine opsVC_mv rfl rfl rfl ?_
      have hclo : Clo [some (SV.ints .u8 64 f, 64), some (SV.ints .u8 64 fun _ => 0, 64), some (SV.vec i H, i), some (SV.ints .u8 64 fun _ => 0, 64)] := fun id u c hb q hq => by
        match id with
        | 0 => cases hb; cases hq
        | 1 => cases hb; cases hq
        | 2 =>
          cases hb
          obtain ⟨k, hk, hqk⟩ := vec_ids.1 hq
          rw [hH k hk] at hqk; simp [SV.ids1] at hqk; subst hqk; show 0 < 4; decide
        | 3 => cases hb; cases hq
        | id + 4 => cases hb
      refine opsVC_dir rfl rfl rfl rfl rfl rfl ?_
      refine Spec.mono (graphOf_s [some (SV.ints .u8 64 f, 64), some (SV.ints .u8 64 fun _ => 0, 64), some (SV.vec i H, i), some (SV.ints .u8 64 fun _ => 0, 64)] 2 i i i i 8 H (fun _ => 0) (fun k => k * 8) (fun _ => 8) (fun _ => 64) (fun _ => 64) (fun _ => f) rfl (Nat.le_refl _) hH (fun _ _ => rfl) (fun k hk => by omega) hclo hn.2 (by omega)) ?_
      rintro r m' ⟨cc, F, C, rfl, rfl, hcc, hF⟩
      refine ⟨memG_live _ _ _ _ _ _ _, ?_⟩
      generalize hm4 : [some (SV.ints .u8 64 f, 64), some (SV.ints .u8 64 fun _ => 0, 64), some (SV.vec i H, i), some (SV.ints .u8 64 fun _ => 0, 64)] = m4 at *
      have hl4 : m4.length = 4 := by rw [← hm4]; rfl
      have hgr : ∀ k, k < i → ∀ j, j < 16 → 0 ≤ graphRow (fun i j => f (j + i * 8)) 8 k j ∧ graphRow (fun i j => f (j + i * 8)) 8 k j < p := fun k hk j hj => by
        unfold graphRow
        split
        · exact hf _ (by omega)
        · unfold unitV; split <;> omega
      refine opsVC_dir rfl rfl rfl rfl rfl rfl ?_
      refine Spec.mono (reduceRows_s (memG m4 i 16 i cc F C) m4.length i i i i 16 p (hdrF m4.length 16 i cc) (fun k => m4.length + 1 + k) cc F C (memG_fam _ _ _ _ _ _ hcc) (memG_clo _ _ _ _ _ _ _ hclo) (fun a b _ _ e => by have e : m4.length + 1 + a = m4.length + 1 + b := e; omega) (by omega) (Nat.le_refl _) (by omega) hp hp2 (fun k hk j hj => by rw [hF k hk j hj]; exact hgr k hk j hj)) ?_
      rintro r M ⟨k, h', ρ', cp', a, d', P, rfl, hk, hb, hred⟩
      refine ⟨hb.live, ?_⟩
      have hsp : ∀ v, Sp p 16 i F v ↔ Sp p 16 i (graphRow (fun i j => f (j + i * 8)) 8) v := fun v => Sp.congr (by omega) (fun l hl j hj => hF l hl j hj) (fun l hl j hj => by rw [hF l hl j hj]; exact hgr l hl j hj)
      have hred := hred.of_iff hsp
      have hρ : ∀ l, l < i → 5 ≤ ρ' l := fun l hl => by obtain ⟨j, hj, e⟩ := hb.sub l hl; rw [e, hl4]; omega
      have hM3 : blockOf M 3 = some (.ints .u8 64 (fun _ => 0), 64) := (hb.out 3 (by omega) (fun l hl => by omega)).trans ((memG_old _ _ _ _ _ _ _ (by omega)).trans (by rw [← hm4]; rfl))
      have hM1 : blockOf M 1 = some (.ints .u8 64 (fun _ => 0), 64) := (hb.out 1 (by omega) (fun l hl => by omega)).trans ((memG_old _ _ _ _ _ _ _ (by omega)).trans (by rw [← hm4]; rfl))
      have hlen : M.length = 5 + i := by rw [hb.len, memG_len, hl4]
      have hsl' : ∀ l, l < i → h' l = .sl (ρ' l) 0 16 (cp' l) := fun l hl => by have := hb.fam.sl l hl; rwa [Nat.zero_add] at this
      refine opsVC_len rfl rfl rfl rfl rfl rfl ?_
      refine opsVC_mv rfl rfl rfl ?_
      (repeat (first | (with_reducible refine vc_exit ?_) | (with_reducible refine vc_ret ?_) | (with_reducible refine vc_skip ?_) | (with_reducible refine thenQ_x ?_) | (with_reducible refine thenQ_r ?_) | (with_reducible refine thenQ_n ?_) | (with_reducible refine blockQ_x rfl ?_) | (with_reducible refine blockQ_y rfl ?_) | (with_reducible refine blockQ_n ?_) | (with_reducible refine blockQ_r ?_) | (with_reducible refine vc_seq ?_) | (with_reducible refine vc_region ?_) | (with_reducible refine vc_block ?_) | (with_reducible refine vc_scope ?_) | (with_reducible refine opsVC_nil ?_)))
      refine LoopVC.ofR (fun x : Nat × (Nat → Int) × Mem => x.1 ≤ k ∧ (∀ l, l < x.1 → ∀ j, j < 8 → a l j = unitV l j) ∧ (∀ q, q < 64 → x.2.1 q = if q / 8 < x.1 then a (q / 8) (8 + q % 8) else 0) ∧ blockOf x.2.2 3 = some (.ints .u8 64 x.2.1, 64) ∧ (∀ id, id ≠ 3 → blockOf x.2.2 id = blockOf M id) ∧ x.2.2.length = M.length ∧ Clo x.2.2)
        (fun x => [(6, .ptr 1 [] 0 0), (10, .ptr 3 [] 0 0), (30, .sl m4.length 0 k i), (31, .int .i64 k), (32, .int .i64 x.1)]) (fun x => x.2.2) (fun x => k - x.1) (0, (fun _ => 0), M) ⟨Nat.zero_le _, fun l hl => absurd hl (Nat.not_lt_zero _), fun q hq => by rw [if_neg (Nat.not_lt_zero _)], hM3, fun _ _ => rfl, rfl, hb.clo⟩ (fun i => i) (RenTo.same ?_ fun i u d hb => ⟨u, hb, eqv_refl u⟩) ?_ ?_ ?_
      · exact (And.intro rfl (And.intro rfl (And.intro rfl (And.intro rfl (And.intro rfl (trivial))))))
      · intro x hx; exact Nat.zero_le _
      · rintro x ⟨_, _, _, _, _, h6, h7⟩
        exact OkP.of (by simp [SV.ids, h6, hlen, hl4]; omega) h7
      · rintro ⟨l, B, M'⟩ ⟨hl, hE, hB, h3, hO, hL, hC⟩
        dsimp only at hl hE hB h3 hO hL hC
        have hlx : (l : Int).toNat * 1 + 0 = l := by omega
        refine ifVC_split (fun h1 => ?_) (fun h1 => ?_)
        · have h1 : l < k := by have := of_decide_eq_true h1; omega
          have hcp := hb.fam.cap l (by omega)
          have hrow := (hO _ (by have := hρ l (by omega); omega)).trans (hb.fam.row l (by omega))
          (repeat (first | refine And.intro (by omega) ?_ | refine And.intro ⟨by omega, by omega⟩ ?_))
          refine opsVC_loadS (v := .sl (ρ' l) 0 16 (cp' l)) rfl rfl rfl rfl ((hO _ (by omega)).trans hb.fam.hdr) (by omega) (by rw [hlx]; exact hsl' l (by omega)) rfl ?_
          refine Exists.intro 6 (And.intro (by kernel_rfl) ?_)
          (repeat (first | refine And.intro (by omega) ?_ | refine And.intro ⟨by omega, by omega⟩ ?_))
          refine headVC_loadR (l := 8) rfl rfl rfl rfl hrow (show 0 + 8 ≤ 16 by omega) ?_
          refine Exists.intro (.ints .u8 8 (unitV l)) (And.intro (And.intro rfl (And.intro rfl (Spec.mono (basisVector_s l (by omega)) fun r m h => h.1))) ?_)
          refine newsVC_none rfl ?_
          refine ifVC_split (fun h2 => ?_) (fun h2 => ?_)
          · have h2 : allEq 8 (fun j => a l (j + 0)) (unitV l) = false := by
              have h2 : (!allEq 8 (fun j => a l (j + 0)) (unitV l)) = true := h2
              simpa using h2
            have hex : ∃ j, j < 8 ∧ a l j ≠ unitV l j := Classical.byContradiction fun hc => by
              have : allEq 8 (fun j => a l (j + 0)) (unitV l) = true := List.all_eq_true.2 fun j hj => by
                have hj := List.mem_range.1 hj
                refine beq_iff_eq.2 (Classical.byContradiction fun hn => hc ⟨j, hj, hn⟩)
              rw [this] at h2; cases h2
            (repeat (first | (with_reducible refine vc_exit ?_) | (with_reducible refine vc_ret ?_) | (with_reducible refine vc_skip ?_) | (with_reducible refine thenQ_x ?_) | (with_reducible refine thenQ_r ?_) | (with_reducible refine thenQ_n ?_) | (with_reducible refine blockQ_x rfl ?_) | (with_reducible refine blockQ_y rfl ?_) | (with_reducible refine blockQ_n ?_) | (with_reducible refine blockQ_r ?_) | (with_reducible refine vc_seq ?_) | (with_reducible refine vc_region ?_) | (with_reducible refine vc_block ?_) | (with_reducible refine vc_scope ?_) | (with_reducible refine opsVC_nil ?_)))
            refine opsVC_build0 rfl rfl rfl rfl rfl rfl ?_
            refine opsVC_storeR rfl rfl rfl rfl rfl ((hO 1 (by omega)).trans hM1) (Nat.le_refl _) ?_
            refine opsVC_as rfl rfl rfl ?_
            (repeat (first | (with_reducible refine vc_exit ?_) | (with_reducible refine vc_ret ?_) | (with_reducible refine vc_skip ?_) | (with_reducible refine thenQ_x ?_) | (with_reducible refine thenQ_r ?_) | (with_reducible refine thenQ_n ?_) | (with_reducible refine blockQ_x rfl ?_) | (with_reducible refine blockQ_y rfl ?_) | (with_reducible refine blockQ_n ?_) | (with_reducible refine blockQ_r ?_) | (with_reducible refine vc_seq ?_) | (with_reducible refine vc_region ?_) | (with_reducible refine vc_block ?_) | (with_reducible refine vc_scope ?_) | (with_reducible refine opsVC_nil ?_)))
            refine retQ_cell (l := 64) rfl rfl rfl (by rw [setBlock_get _ _ _ _ _ _ ((hO 1 (by omega)).trans hM1), if_pos rfl]) (Nat.le_refl _) rfl rfl ?_
            exact ⟨k, a, P, hk, hred, .inr ⟨⟨l, h1, hex⟩, _, rfl, fun q hq => by show updR _ 0 64 _ (q + 0) = _; simp [updR, hq]⟩⟩
          · have h2 : allEq 8 (fun j => a l (j + 0)) (unitV l) = true := by
              have h2 : (!allEq 8 (fun j => a l (j + 0)) (unitV l)) = false := h2
              simpa using h2
            (repeat (first | (with_reducible refine vc_exit ?_) | (with_reducible refine vc_ret ?_) | (with_reducible refine vc_skip ?_) | (with_reducible refine thenQ_x ?_) | (with_reducible refine thenQ_r ?_) | (with_reducible refine thenQ_n ?_) | (with_reducible refine blockQ_x rfl ?_) | (with_reducible refine blockQ_y rfl ?_) | (with_reducible refine blockQ_n ?_) | (with_reducible refine blockQ_r ?_) | (with_reducible refine vc_seq ?_) | (with_reducible refine vc_region ?_) | (with_reducible refine vc_block ?_) | (with_reducible refine vc_scope ?_) | (with_reducible refine opsVC_nil ?_)))
            refine opsVC_mv rfl rfl rfl ?_
            (repeat (first | refine And.intro (by omega) ?_ | refine And.intro ⟨by omega, by omega⟩ ?_))
            refine opsVC_loadR (l := 8) rfl rfl rfl rfl hrow (show (8 : Int).toNat * 1 + 0 + 8 ≤ 16 by omega) ?_
            (repeat (first | refine And.intro (by omega) ?_ | refine And.intro ⟨by omega, by omega⟩ ?_))
            refine opsVC_storeR rfl rfl rfl rfl rfl h3 (show (l : Int).toNat * 8 + 0 + 8 ≤ 64 by omega) ?_
            have hix : (l : Int).toNat * 8 + 0 = l * 8 := by omega
            have sg := fun id => setBlock_get M' 3 id (.ints .u8 64 (updR B ((l : Int).toNat * 8 + 0) 8 fun j => a l (j + ((8 : Int).toNat * 1 + 0)))) _ _ h3
            refine Exists.intro (l + 1, updR B ((l : Int).toNat * 8 + 0) 8 (fun j => a l (j + ((8 : Int).toNat * 1 + 0))), _) (Exists.intro (fun i => i) (And.intro ⟨h1, fun q hq j hj => ?_, fun q hq => ?_, ?_, fun id hid => ?_, ?_, ?_⟩ (And.intro (show k - (l + 1) < k - l by omega) (RenTo.same ?_ fun i u d hb => ⟨u, hb, eqv_refl u⟩))))
            · have hq : q < l + 1 := hq
              by_cases e : q = l
              · subst e; exact allEq_get h2 hj
              · exact hE q (by omega) j hj
            · show updR B ((l : Int).toNat * 8 + 0) 8 (fun j => a l (j + ((8 : Int).toNat * 1 + 0))) q = if q / 8 < l + 1 then a (q / 8) (8 + q % 8) else 0
              unfold updR
              rw [hix]
              by_cases e : l * 8 ≤ q ∧ q < l * 8 + 8
              · rw [if_pos e, if_pos (by omega), show q / 8 = l by omega]
                exact congrArg (a l) (show q - l * 8 + (8 * 1 + 0) = 8 + q % 8 by omega)
              · rw [if_neg e, hB q hq]
                by_cases e2 : q / 8 < l
                · rw [if_pos e2, if_pos (by omega)]
                · rw [if_neg e2, if_neg (by omega)]
            · show blockOf (setBlock M' 3 _) 3 = _
              rw [sg, if_pos rfl]
            · show blockOf (setBlock M' 3 _) id = _
              rw [sg, if_neg hid]; exact hO id hid
            · show (setBlock M' 3 _).length = _
              rw [setBlock_lt]; exact hL
            · exact setBlock_clo hC h3 (by simp [SV.ids])
            · exact And.intro rfl (And.intro rfl (And.intro rfl (And.intro rfl (And.intro (slotI (wrapS (by omega))) trivial))))
        · have h1 : l = k := by have := of_decide_eq_false h1; omega
          subst h1
          (repeat (first | (with_reducible refine vc_exit ?_) | (with_reducible refine vc_ret ?_) | (with_reducible refine vc_skip ?_) | (with_reducible refine thenQ_x ?_) | (with_reducible refine thenQ_r ?_) | (with_reducible refine thenQ_n ?_) | (with_reducible refine blockQ_x rfl ?_) | (with_reducible refine blockQ_y rfl ?_) | (with_reducible refine blockQ_n ?_) | (with_reducible refine blockQ_r ?_) | (with_reducible refine vc_seq ?_) | (with_reducible refine vc_region ?_) | (with_reducible refine vc_block ?_) | (with_reducible refine vc_scope ?_) | (with_reducible refine opsVC_nil ?_)))
          refine opsVC_loadR (l := 64) rfl rfl rfl rfl h3 (Nat.le_refl _) ?_
          refine opsVC_storeR rfl rfl rfl rfl rfl ((hO 1 (by omega)).trans hM1) (Nat.le_refl _) ?_
          refine opsVC_as rfl rfl rfl ?_
          (repeat (first | (with_reducible refine vc_exit ?_) | (with_reducible refine vc_ret ?_) | (with_reducible refine vc_skip ?_) | (with_reducible refine thenQ_x ?_) | (with_reducible refine thenQ_r ?_) | (with_reducible refine thenQ_n ?_) | (with_reducible refine blockQ_x rfl ?_) | (with_reducible refine blockQ_y rfl ?_) | (with_reducible refine blockQ_n ?_) | (with_reducible refine blockQ_r ?_) | (with_reducible refine vc_seq ?_) | (with_reducible refine vc_region ?_) | (with_reducible refine vc_block ?_) | (with_reducible refine vc_scope ?_) | (with_reducible refine opsVC_nil ?_)))
          refine retQ_cell (l := 64) rfl rfl rfl (by rw [setBlock_get _ _ _ _ _ _ ((hO 1 (by omega)).trans hM1), if_pos rfl]) (Nat.le_refl _) rfl rfl ?_
          exact ⟨l, a, P, hk, hred, .inl ⟨hE, _, rfl, fun q hq => by show updR _ 0 64 _ (q + 0) = _; simp [updR, hq]; exact hB q hq⟩⟩
end Go.Proofs.Ytojfjcbblkiajaa
