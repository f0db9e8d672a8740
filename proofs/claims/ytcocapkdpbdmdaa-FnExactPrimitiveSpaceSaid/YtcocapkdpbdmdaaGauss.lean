/- Rows made reduced in their own memory. -/
import Derived.Test.YtcocapkdpbdmdaaRows3
set_option linter.unusedVariables false
set_option linter.unusedSimpArgs false
set_option maxRecDepth 100000
set_option maxHeartbeats 4000000
namespace Go.Proofs.Ytcocapkdpbdmdaa
open M

/-- a family in a memory that has come out of another one: the rows are the same blocks, in whatever order -/
structure GB (m : Mem) (hd N c0 n w : Nat) (ρ0 : Nat → Nat) (h : Nat → SV) (ρ cp : Nat → Nat) (f : Nat → Nat → Int) (d : Nat → Nat) (M : Mem) : Prop where
  fam : Fam M hd N c0 h 0 n w ρ cp f d
  clo : Clo M
  len : M.length = m.length
  live : liveP m M
  inj : ∀ i j, i < n → j < n → ρ i = ρ j → i = j
  sub : ∀ i, i < n → ∃ j, j < n ∧ ρ i = ρ0 j
  out : ∀ id, id ≠ hd → (∀ i, i < n → ρ0 i ≠ id) → blockOf M id = blockOf m id

theorem GB.setRow {m : Mem} {hd N c0 n w : Nat} {ρ0 : Nat → Nat} {h : Nat → SV} {ρ cp : Nat → Nat} {f : Nat → Nat → Int} {d : Nat → Nat} {M : Mem} (b : GB m hd N c0 n w ρ0 h ρ cp f d M) {i : Nat} (hi : i < n) (g : Nat → Int) :
    GB m hd N c0 n w ρ0 h ρ cp (fun l => if l = i then g else f l) d (setBlock M (ρ i) (.ints .u8 w g)) := by
  have hr := b.fam.row i hi
  have get := fun id => setBlock_get M (ρ i) id (.ints .u8 w g) _ _ hr
  refine ⟨⟨?_, b.fam.fit, b.fam.sl, fun l hl => ?_, b.fam.cap⟩, setBlock_clo b.clo hr (by simp [SV.ids]), by rw [setBlock_lt]; exact b.len, b.live.trans (by rw [b.len]; exact Nat.le_refl _) (setBlock_live hr), b.inj, b.sub, fun id h1 h2 => ?_⟩
  · rw [get, if_neg (fun e => b.fam.ne i hi e.symm)]; exact b.fam.hdr
  · rw [get]
    by_cases e : l = i
    · subst e; rw [if_pos rfl, if_pos rfl]
    · rw [if_neg (fun e' => e (b.inj l i hl hi e')), if_neg e]; exact b.fam.row l hl
  · obtain ⟨j, hj, e⟩ := b.sub i hi
    rw [get, if_neg (fun e' => h2 j hj (by rw [← e, e']))]
    exact b.out id h1 h2

theorem GB.swap {m : Mem} {hd N c0 n w : Nat} {ρ0 : Nat → Nat} {h : Nat → SV} {ρ cp : Nat → Nat} {f : Nat → Nat → Int} {d : Nat → Nat} {M : Mem} (b : GB m hd N c0 n w ρ0 h ρ cp f d M) {a c : Nat} (ha : a < n) (hc : c < n) {h' : Nat → SV}
    (hh : ∀ i, h' i = if i = c then h a else if i = a then h c else h i) {x : SV} :
    GB m hd N c0 n w ρ0 h' (fun i => if i = a then ρ c else if i = c then ρ a else ρ i) (fun i => if i = a then cp c else if i = c then cp a else cp i) (swapR f a c) (fun i => if i = a then d c else if i = c then d a else d i)
      (setBlock (setBlock M hd x) hd (.vec N h')) := by
  have hr := b.fam.hdr
  have hr2 : blockOf (setBlock M hd x) hd = some (x, c0) := by rw [setBlock_get M hd hd _ _ _ hr, if_pos rfl]
  have get : ∀ id, blockOf (setBlock (setBlock M hd x) hd (.vec N h')) id = if id = hd then some (.vec N h', c0) else blockOf M id := fun id => by
    rw [setBlock_get _ hd id _ _ _ hr2]
    by_cases e : id = hd
    · rw [if_pos e, if_pos e]
    · rw [if_neg e, if_neg e, setBlock_get M hd id _ _ _ hr, if_neg e]
  have hlen : (setBlock (setBlock M hd x) hd (.vec N h')).length = M.length := by rw [setBlock_lt, setBlock_lt]
  have fit := b.fam.fit
  have hsl : ∀ i, i < n → h i = .sl (ρ i) 0 w (cp i) := fun i hi => by have := b.fam.sl i hi; rwa [Nat.zero_add] at this
  refine ⟨⟨by rw [get, if_pos rfl], fit, fun i hi => ?_, fun i hi => ?_, fun i hi => ?_⟩, fun id u k hb i hi => ?_, by rw [hlen]; exact b.len, fun id hid hs => ?_, fun i j hi hj e => ?_, fun i hi => ?_, fun id h1 h2 => ?_⟩
  · rw [Nat.zero_add, hh i]
    by_cases e1 : i = c
    · by_cases e2 : i = a
      · have : a = c := by omega
        subst this; rw [if_pos e1, if_pos e2, hsl _ ha]; simp [e2]
      · rw [if_pos e1, hsl _ ha, if_neg e2, if_pos e1, if_neg e2, if_pos e1]
    · rw [if_neg e1]
      by_cases e2 : i = a
      · rw [if_pos e2, hsl _ hc]; simp [e2]
      · rw [if_neg e2, hsl _ hi]; simp [e1, e2]
  · have hne : ∀ l, l < n → ρ l ≠ hd := b.fam.ne
    by_cases e2 : i = a
    · rw [if_pos e2, get, if_neg (hne c hc), b.fam.row c hc]; simp [swapR, e2]
    · by_cases e1 : i = c
      · rw [if_neg e2, if_pos e1, get, if_neg (hne a ha), b.fam.row a ha]; unfold swapR; rw [if_neg e2, if_pos e1, if_neg e2, if_pos e1]
      · rw [if_neg e2, if_neg e1, get, if_neg (hne i hi), b.fam.row i hi]; simp [swapR, e1, e2]
  · show w ≤ if i = a then cp c else if i = c then cp a else cp i
    split
    · exact b.fam.cap c hc
    · split
      · exact b.fam.cap a ha
      · exact b.fam.cap i hi
  · rw [hlen]
    rw [get] at hb
    by_cases e : id = hd
    · rw [if_pos e] at hb
      cases hb
      obtain ⟨q, hq, hm⟩ := vec_ids.1 hi
      have key : ∀ l, l < n → i ∈ (h l).ids1 → i < M.length := fun l hl hm => by
        rw [hsl l hl] at hm
        simp [SV.ids1] at hm
        subst hm; exact b.fam.lt l hl
      rw [hh q] at hm
      split at hm
      · exact key a ha hm
      · split at hm
        · exact key c hc hm
        · exact b.clo hd _ _ hr i (vec_ids.2 ⟨q, hq, hm⟩)
    · rw [if_neg e] at hb; exact b.clo id u k hb i hi
  · rw [get] at hs
    by_cases e : id = hd
    · exact b.live id hid (by rw [e, hr]; rfl)
    · rw [if_neg e] at hs; exact b.live id hid hs
  · have key : ∀ l, l < n → (if l = a then c else if l = c then a else l) < n := fun l hl => by split; exact hc; split; exact ha; exact hl
    have val : ∀ l, (if l = a then ρ c else if l = c then ρ a else ρ l) = ρ (if l = a then c else if l = c then a else l) := fun l => by split; rfl; split; rfl; rfl
    have e : (if i = a then ρ c else if i = c then ρ a else ρ i) = (if j = a then ρ c else if j = c then ρ a else ρ j) := e
    rw [val, val] at e
    have e := b.inj _ _ (key i hi) (key j hj) e
    by_cases i1 : i = a <;> by_cases i2 : i = c <;> by_cases j1 : j = a <;> by_cases j2 : j = c <;> simp_all
  · have key : ∀ l, l < n → (if l = a then c else if l = c then a else l) < n := fun l hl => by split; exact hc; split; exact ha; exact hl
    have val : ∀ l, (if l = a then ρ c else if l = c then ρ a else ρ l) = ρ (if l = a then c else if l = c then a else l) := fun l => by split; rfl; split; rfl; rfl
    show ∃ j, j < n ∧ (if i = a then ρ c else if i = c then ρ a else ρ i) = ρ0 j
    rw [val]
    exact b.sub _ (key i hi)
  · rw [get, if_neg h1]; exact b.out id h1 h2

structure GS where
  done : Nat
  place : Nat
  h : Nat → SV
  ρ : Nat → Nat
  cp : Nat → Nat
  f : Nat → Nat → Int
  d : Nat → Nat
  P : Nat → Nat
  M : Mem
structure GI (m : Mem) (hd N c0 n w p : Nat) (ρ0 : Nat → Nat) (f0 : Nat → Nat → Int) (x : GS) : Prop where
  b : GB m hd N c0 n w ρ0 x.h x.ρ x.cp x.f x.d x.M
  g : Gauss p w n f0 x.f x.done x.place x.P
/-- the inner loop's: rows below i are through -/
structure GJ (m : Mem) (hd N c0 n w p : Nat) (ρ0 : Nat → Nat) (h : Nat → SV) (ρ cp d : Nat → Nat) (G : Nat → Nat → Int) (done place : Nat) (x : Nat × (Nat → Nat → Int) × Mem) : Prop where
  b : GB m hd N c0 n w ρ0 h ρ cp x.2.1 d x.2.2
  le : x.1 ≤ n
  val : ∀ l, l < n → ∀ j, j < w → x.2.1 l j = if l < x.1 then clearR p G done place l j else G l j

/-- what comes out of reduceRows -/
def RedQ (m : Mem) (hd N c0 n w p cap : Nat) (ρ0 : Nat → Nat) (f0 : Nat → Nat → Int) (r : SV) (m' : Mem) : Prop :=
  ∃ (k : Nat) (h : Nat → SV) (ρ cp : Nat → Nat) (f : Nat → Nat → Int) (d P : Nat → Nat), r = .sl hd 0 k cap ∧ k ≤ n ∧ GB m hd N c0 n w ρ0 h ρ cp f d m' ∧ Red p w (Sp p w n f0) k f P

theorem reduceRows_s (m : Mem) (hd N c0 n cap w p : Nat) (h : Nat → SV) (ρ cp : Nat → Nat) (f : Nat → Nat → Int) (d : Nat → Nat) (hF : Fam m hd N c0 h 0 n w ρ cp f d) (hm : Clo m) (hinj : ∀ i j, i < n → j < n → ρ i = ρ j → i = j)
    (hn : n ≤ 1000000) (hcap : n ≤ cap) (hw : w ≤ 1000000) (hp : primeB (p : Int) = true) (hp2 : 2 ≤ p ∧ p ≤ 31) (hr : ∀ i, i < n → ∀ j, j < w → 0 ≤ f i j ∧ f i j < p) :
    Spec Try.prog 57 [.int .i64 p, .sl hd 0 n cap] m (RedQ m hd N c0 n w p cap ρ f) := by
  have hfit := hF.fit
  refine Spec.of_vc (tabOK.dir fun g => Nat.beq g 79) (tabEq.dir _) Try.func57 rfl (by kernel_rfl) rfl (by simp [idsOf, SV.ids, Nat.blt_eq, hF.hlt]) ?_
  refine LoopVC.ofR (GI m hd N c0 n w p ρ f) (fun x => [(0, .int .i64 p), (1, .sl hd 0 n cap), (5, .int .i64 x.done), (6, .int .i64 x.place)]) (fun x => x.M) (fun x => w - x.place) ⟨0, 0, h, ρ, cp, f, d, fun _ => 0, m⟩
    ⟨⟨hF, hm, rfl, liveP.refl m, hinj, fun i hi => ⟨i, hi, rfl⟩, fun _ _ _ => rfl⟩, Gauss.start hr⟩ (fun i => i) (RenTo.same (And.intro rfl (And.intro rfl (And.intro rfl (And.intro rfl (trivial))))) fun i u d hb => ⟨u, hb, eqv_refl u⟩) (fun x hx => Nat.le_of_eq hx.b.len.symm) (fun x hx => OkP.of (by simp [SV.ids, hx.b.len, hF.hlt]) hx.b.clo) ?_
  intro x hx
  obtain ⟨hb, hg⟩ := hx
  have hdn := hg.dn
  have hpw := hg.pw
  have hend : (x.done = n ∨ x.place = w) → RedQ m hd N c0 n w p cap ρ f (.sl hd 0 x.done cap) x.M := fun he => ⟨x.done, x.h, x.ρ, x.cp, x.f, x.d, x.P, rfl, hdn, hb, hg.red (by omega) he⟩
  have hsl : ∀ i, i < n → x.h i = .sl (x.ρ i) 0 w (x.cp i) := fun i hi => by have := hb.fam.sl i hi; rwa [Nat.zero_add] at this
  have hdi : (x.done : Int).toNat * 1 + 0 = x.done := by omega
  have hpi : (x.place : Int).toNat * 1 + 0 = x.place := by omega
  refine ifVC_split (fun h1 => ?_) (fun h1 => ?_)
  · have h1 : x.done < n := by have := of_decide_eq_true h1; omega
    (repeat (first | refine And.intro (by omega) ?_ | refine And.intro ⟨by omega, by omega⟩ ?_))
    refine opsVC_loadSg (v := .sl (x.ρ x.done) 0 w (x.cp x.done)) rfl rfl rfl rfl rfl rfl hb.fam.hdr (by omega) (by rw [hdi]; exact hsl _ h1) rfl ?_
    refine ifVC_split (fun h2 => ?_) (fun h2 => ?_)
    · have h2 : x.place < w := by have := of_decide_eq_true h2; omega
      (repeat (first | refine And.intro (by omega) ?_ | refine And.intro ⟨by omega, by omega⟩ ?_))
      have hsub : Fam x.M hd N c0 x.h ((x.done : Int).toNat * 1 + 0) (n - (x.done : Int).toNat) w (fun i => x.ρ (x.done + i)) (fun i => x.cp (x.done + i)) (fun i => x.f (x.done + i)) (fun i => x.d (x.done + i)) :=
        ⟨hb.fam.hdr, by omega, fun i hi => by rw [hdi]; exact hsl _ (by omega), fun i hi => hb.fam.row _ (by omega), fun i hi => hb.fam.cap _ (by omega)⟩
      refine opsVC_mv rfl rfl rfl ?_
      refine opsVC_dir rfl rfl rfl rfl rfl rfl ?_
      refine Spec.mono (rowWithEntryF_s x.M hd N c0 _ _ _ w x.place x.h _ _ _ _ hsub hb.clo (by omega) h2 hw) ?_
      rintro r m' ⟨rfl, hres⟩
      refine ⟨liveP.refl _, ?_⟩
      rcases hres with ⟨k, hk, rfl, hne, hall⟩ | ⟨rfl, hall⟩
      · have hkn : x.done + k < n := by omega
        have hdk : IntKind.i64.wrap ((x.done : Int) + (k : Int)) = ((x.done + k : Nat) : Int) := by rw [wrapI (by omega)]; omega
        have hki : (IntKind.i64.wrap ((x.done : Int) + (k : Int))).toNat * 1 + 0 = x.done + k := by rw [hdk]; omega
        refine Exists.intro 1017 (And.intro (by kernel_rfl) ?_)
        refine And.intro ⟨by rw [hdk]; omega, by rw [hdk]; omega⟩ ?_
        refine opsVC_loadS (v := .sl (x.ρ (x.done + k)) 0 w (x.cp (x.done + k))) rfl rfl rfl rfl hb.fam.hdr (by rw [hki]; omega) (by rw [hki]; exact hsl _ hkn) rfl ?_
        (repeat (first | refine And.intro (by omega) ?_ | refine And.intro ⟨by omega, by omega⟩ ?_))
        refine opsVC_loadS (v := .sl (x.ρ x.done) 0 w (x.cp x.done)) rfl rfl rfl rfl hb.fam.hdr (by omega) (by rw [hdi]; exact hsl _ h1) rfl ?_
        (repeat (first | refine And.intro (by omega) ?_ | refine And.intro ⟨by omega, by omega⟩ ?_))
        refine opsVC_storeV rfl rfl rfl rfl rfl hb.fam.hdr rfl (by omega) ?_
        refine And.intro ⟨by rw [hdk]; omega, by rw [hdk]; omega⟩ ?_
        refine opsVC_storeV rfl rfl rfl rfl rfl (by rw [setBlock_get _ _ _ _ _ _ hb.fam.hdr, if_pos rfl]) rfl (by rw [hki]; omega) ?_
        have b1 := hb.swap h1 hkn (h' := updV (updV x.h ((x.done : Int).toNat * 1 + 0) (.sl (x.ρ (x.done + k)) 0 w (x.cp (x.done + k)))) ((IntKind.i64.wrap ((x.done : Int) + (k : Int))).toNat * 1 + 0) (.sl (x.ρ x.done) 0 w (x.cp x.done)))
          (fun i => by unfold updV; rw [hki, hdi, hsl _ h1, hsl _ hkn]) (x := .vec N (updV x.h ((x.done : Int).toNat * 1 + 0) (.sl (x.ρ (x.done + k)) 0 w (x.cp (x.done + k)))))
        generalize setBlock (setBlock x.M hd (SV.vec N (updV x.h ((x.done : Int).toNat * 1 + 0) (.sl (x.ρ (x.done + k)) 0 w (x.cp (x.done + k)))))) hd (SV.vec N (updV (updV x.h ((x.done : Int).toNat * 1 + 0) (.sl (x.ρ (x.done + k)) 0 w (x.cp (x.done + k)))) ((IntKind.i64.wrap ((x.done : Int) + (k : Int))).toNat * 1 + 0) (.sl (x.ρ x.done) 0 w (x.cp x.done)))) = M1 at b1 ⊢
        generalize updV (updV x.h ((x.done : Int).toNat * 1 + 0) (.sl (x.ρ (x.done + k)) 0 w (x.cp (x.done + k)))) ((IntKind.i64.wrap ((x.done : Int) + (k : Int))).toNat * 1 + 0) (.sl (x.ρ x.done) 0 w (x.cp x.done)) = h1' at b1
        generalize (fun i => if i = x.done then x.ρ (x.done + k) else if i = x.done + k then x.ρ x.done else x.ρ i) = ρ1 at b1
        generalize (fun i => if i = x.done then x.cp (x.done + k) else if i = x.done + k then x.cp x.done else x.cp i) = cp1 at b1
        generalize (fun i => if i = x.done then x.d (x.done + k) else if i = x.done + k then x.d x.done else x.d i) = d1 at b1
        have hF1 : swapR x.f x.done (x.done + k) x.done = x.f (x.done + k) := by simp [swapR]
        have rng1 : ∀ i, i < n → ∀ j, j < w → 0 ≤ swapR x.f x.done (x.done + k) i j ∧ swapR x.f x.done (x.done + k) i j < p := fun i hi j hj => by
          unfold swapR
          split
          · exact hg.rng _ hkn j hj
          · split
            · exact hg.rng _ h1 j hj
            · exact hg.rng _ hi j hj
        have hgp := fun y => hg.pivot (b := x.done + k) (y := y) (by omega) h1 h2 ⟨by omega, hkn⟩
        have hne : swapR x.f x.done (x.done + k) x.done x.place ≠ 0 := by rw [hF1]; exact hne
        rw [← hF1] at hgp
        generalize swapR x.f x.done (x.done + k) = F1 at *
        have hsl1 : ∀ i, i < n → h1' i = .sl (ρ1 i) 0 w (cp1 i) := fun i hi => by have := b1.fam.sl i hi; rwa [Nat.zero_add] at this
        obtain ⟨q, hq⟩ := Int.eq_ofNat_of_zero_le (rng1 x.done h1 x.place h2).1
        have hq1 := (rng1 x.done h1 x.place h2).2
        rw [hq] at hne hq1
        refine Exists.intro 12 (And.intro (by kernel_rfl) ?_)
        (repeat (first | refine And.intro (by omega) ?_ | refine And.intro ⟨by omega, by omega⟩ ?_))
        refine headVC_loadS (v := .sl (ρ1 x.done) 0 w (cp1 x.done)) rfl rfl rfl rfl b1.fam.hdr (by omega) (by rw [hdi]; exact hsl1 _ h1) rfl ?_
        (repeat (first | refine And.intro (by omega) ?_ | refine And.intro ⟨by omega, by omega⟩ ?_))
        refine headVC_loadS (v := .sl (ρ1 x.done) 0 w (cp1 x.done)) rfl rfl rfl rfl b1.fam.hdr (by omega) (by rw [hdi]; exact hsl1 _ h1) rfl ?_
        (repeat (first | refine And.intro (by omega) ?_ | refine And.intro ⟨by omega, by omega⟩ ?_))
        refine headVC_load rfl rfl rfl rfl (b1.fam.row _ h1) (by omega) ?_
        refine newsVC_none rfl ?_
        refine opsVC_call rfl rfl rfl rfl rfl rfl ?_
        refine callVC_row (args' := [.int .i64 p, .sl 0 0 w (cp1 x.done), .int .u8 (q : Int)]) (b1.fam.row _ h1) rfl (fun _ => rfl) rfl (by rw [hpi, hq]; simp [SV.ren, posIn, Nat.beq_refl]) ?_
        refine Spec.mono (divideRow_s w (cp1 x.done) _ p q _ hw hp hp2 ⟨by omega, by omega⟩ (fun j hj => by have := rng1 _ h1 j hj; omega)) ?_
        rintro r m' ⟨y, g, hy0, hy, hyx, hgv, rfl, rfl⟩
        refine ⟨.ints .u8 w g, fun _ => rfl, fun _ => rfl, rfl, ?_⟩
        have b2 := b1.setRow h1 g
        generalize setBlock M1 (ρ1 x.done) (.ints .u8 w g) = M2 at b2 ⊢
        have hyq : (y : Int) * F1 x.done x.place % p = 1 := by rw [hq]; exact_mod_cast hyx
        have hgp := hgp y hyq
        have rngG : ∀ i, i < n → ∀ j, j < w → 0 ≤ mulR p y F1 x.done i j ∧ mulR p y F1 x.done i j < p := fun i hi j hj => by
          unfold mulR
          split
          · exact mod_rng (by omega) _
          · exact rng1 i hi j hj
        have hG : ∀ l, l < n → ∀ j, j < w → (if l = x.done then g else F1 l) j = mulR p y F1 x.done l j := fun l hl j hj => by
          unfold mulR
          by_cases e : l = x.done
          · rw [if_pos e, if_pos e, hgv j hj]; rfl
          · rw [if_neg e, if_neg e]
        have hGd : ∀ i, clearR p (mulR p y F1 x.done) x.done x.place i = if i ≠ x.done ∧ mulR p y F1 x.done i x.place ≠ 0 then fun j => (mulR p y F1 x.done i j + (p - mulR p y F1 x.done i x.place) * mulR p y F1 x.done x.done j) % p else mulR p y F1 x.done i := fun i => rfl
        generalize mulR p y F1 x.done = G at *
        have hp0 : (0 : Int) < p ∧ (p : Int) < 256 := by omega
        refine LoopVC.ofR (GJ m hd N c0 n w p ρ h1' ρ1 cp1 d1 G x.done x.place) (fun z => [(0, .int .i64 p), (1, .sl hd 0 n cap), (5, .int .i64 x.done), (6, .int .i64 x.place), (63, .sl hd 0 n cap), (64, .int .i64 n), (65, .int .i64 z.1)]) (fun z => z.2.2) (fun z => n - z.1) (0, (fun l => if l = x.done then g else F1 l), M2)
          ⟨b2, Nat.zero_le _, fun l hl j hj => by rw [if_neg (Nat.not_lt_zero _)]; exact hG l hl j hj⟩ (fun i => i) (RenTo.same (And.intro rfl (And.intro rfl (And.intro rfl (And.intro rfl (And.intro rfl (And.intro rfl (And.intro rfl (trivial)))))))) fun i u d hb => ⟨u, hb, eqv_refl u⟩) (fun z hz => Nat.le_of_eq hz.b.len.symm) (fun z hz => OkP.of (by simp [SV.ids, hz.b.len, hF.hlt]) hz.b.clo) ?_
        intro z hz
        obtain ⟨hzb, hzl, hzv⟩ := hz
        have hzi : (z.1 : Int).toNat * 1 + 0 = z.1 := by omega
        have hrow : ∀ l, l < n → ∀ j, j < w → 0 ≤ z.2.1 l j ∧ z.2.1 l j < p := fun l hl j hj => by
          rw [hzv l hl j hj]
          split
          · rw [hGd]
            split
            · exact mod_rng (by omega) _
            · exact rngG l hl j hj
          · exact rngG l hl j hj
        have hzd : ∀ j, j < w → z.2.1 x.done j = G x.done j := fun j hj => by
          rw [hzv _ h1 j hj]
          split
          · rw [hGd, if_neg (fun hh => hh.1 rfl)]
          · rfl
        have next : ∀ (f' : Nat → Nat → Int) (M' : Mem), z.1 < n → GB m hd N c0 n w ρ h1' ρ1 cp1 f' d1 M' → (∀ l, l < n → l ≠ z.1 → f' l = z.2.1 l) → (∀ j, j < w → f' z.1 j = clearR p G x.done x.place z.1 j) → GJ m hd N c0 n w p ρ h1' ρ1 cp1 d1 G x.done x.place (z.1 + 1, f', M') := fun f' M' hlt hb' hne' heq' => by
          refine ⟨hb', hlt, fun l hl j hj => ?_⟩
          show f' l j = if l < z.1 + 1 then _ else _
          by_cases e : l = z.1
          · rw [e, if_pos (by omega)]; exact heq' j hj
          · rw [hne' l hl e, hzv l hl j hj]
            by_cases e2 : l < z.1
            · rw [if_pos e2, if_pos (by omega)]
            · rw [if_neg e2, if_neg (by omega)]
        refine ifVC_split (fun h3 => ?_) (fun h3 => ?_)
        · have h3 : z.1 < n := by have := of_decide_eq_true h3; omega
          have hz0 : ∀ j, j < w → z.2.1 z.1 j = G z.1 j := fun j hj => by rw [hzv _ h3 j hj, if_neg (Nat.lt_irrefl _)]
          (repeat (first | refine And.intro (by omega) ?_ | refine And.intro ⟨by omega, by omega⟩ ?_))
          refine opsVC_loadS (v := .sl (ρ1 z.1) 0 w (cp1 z.1)) rfl rfl rfl rfl hzb.fam.hdr (by omega) (by rw [hzi]; exact hsl1 z.1 h3) rfl ?_
          refine ifVC_split (fun h4 => ?_) (fun h4 => ?_)
          · have h4 : z.1 ≠ x.done := by
              have h4 : ((z.1 : Int) != (x.done : Int)) = true := h4
              intro e; rw [e] at h4; simp at h4
            (repeat (first | refine And.intro (by omega) ?_ | refine And.intro ⟨by omega, by omega⟩ ?_))
            refine opsVC_loadg rfl rfl rfl rfl rfl rfl (hzb.fam.row _ h3) (by omega) ?_
            refine ifVC_split (fun h5 => ?_) (fun h5 => ?_)
            · have h5 : G z.1 x.place ≠ 0 := by
                have h5 : (z.2.1 z.1 ((x.place : Int).toNat * 1 + 0) != 0) = true := h5
                rw [hpi, hz0 _ h2] at h5
                simpa using h5
              have hv := rngG z.1 h3 x.place h2
              refine Exists.intro 13 (And.intro (by kernel_rfl) ?_)
              (repeat (first | refine And.intro (by omega) ?_ | refine And.intro ⟨by omega, by omega⟩ ?_))
              refine headVC_load rfl rfl rfl rfl (hzb.fam.row _ h3) (by omega) ?_
              (repeat (first | refine And.intro (by omega) ?_ | refine And.intro ⟨by omega, by omega⟩ ?_))
              refine headVC_loadS (v := .sl (ρ1 x.done) 0 w (cp1 x.done)) rfl rfl rfl rfl hzb.fam.hdr (by omega) (by rw [hdi]; exact hsl1 _ h1) rfl ?_
              refine newsVC_none rfl ?_
              refine opsVC_call rfl rfl rfl rfl rfl rfl ?_
              have hij : ρ1 z.1 ≠ ρ1 x.done := fun e => h4 (hzb.inj _ _ h3 h1 e)
              have hbq : Nat.beq (ρ1 z.1) (ρ1 x.done) = false := by
                cases hh : Nat.beq (ρ1 z.1) (ρ1 x.done) with
                | false => rfl
                | true => exact absurd (Nat.eq_of_beq_eq_true hh) hij
              have he : IntKind.i64.wrap ((p : Int) - IntKind.i64.wrap (z.2.1 z.1 ((x.place : Int).toNat * 1 + 0))) = p - G z.1 x.place := by
                rw [hpi, hz0 _ h2, wrapI (x := G z.1 x.place) (by omega), wrapI (by omega)]
              refine callVC_row2 (args' := [.int .i64 p, .sl 0 0 w (cp1 z.1), .int .i64 (p - G z.1 x.place), .sl 1 0 w (cp1 x.done)]) hij (hzb.fam.row _ h3) (hzb.fam.row _ h1) rfl rfl (fun _ => rfl) (fun _ => rfl) rfl (by rw [he]; simp [SV.ren, posIn, Nat.beq_refl, hbq]) ?_
              refine Spec.mono (addRow_s w _ _ _ _ p (p - G z.1 x.place) _ _ hw hp0 ⟨by omega, by omega⟩ (fun j hj => by have := hrow _ h3 j hj; omega) (fun j hj => by have := hrow _ h1 j hj; omega)) ?_
              rintro r m' ⟨rfl, rfl⟩
              refine ⟨.ints .u8 w (addM p (z.2.1 z.1) (p - G z.1 x.place) (z.2.1 x.done)), fun _ => rfl, fun _ => rfl, rfl, ?_⟩
              refine Exists.intro (z.1 + 1, (fun l => if l = z.1 then addM p (z.2.1 z.1) (p - G z.1 x.place) (z.2.1 x.done) else z.2.1 l), setBlock z.2.2 (ρ1 z.1) (.ints .u8 w (addM p (z.2.1 z.1) (p - G z.1 x.place) (z.2.1 x.done)))) (Exists.intro (fun i => i) (And.intro (next _ _ h3 (hzb.setRow h3 _) (fun l hl e => if_neg e) fun j hj => ?_) (And.intro (show n - (z.1 + 1) < n - z.1 by omega) (RenTo.same ?_ fun i u d hb => ⟨u, hb, eqv_refl u⟩))))
              · rw [if_pos rfl, hGd, if_pos ⟨h4, h5⟩]
                show (z.2.1 z.1 j + (p - G z.1 x.place) * z.2.1 x.done j) % p = _
                rw [hz0 j hj, hzd j hj]
              · exact And.intro rfl (And.intro rfl (And.intro rfl (And.intro rfl (And.intro rfl (And.intro rfl (And.intro (slotI (wrapS (by omega))) trivial))))))
            · have h5 : G z.1 x.place = 0 := by
                have h5 : (z.2.1 z.1 ((x.place : Int).toNat * 1 + 0) != 0) = false := h5
                rw [hpi, hz0 _ h2] at h5
                simpa using h5
              refine Exists.intro (z.1 + 1, z.2.1, z.2.2) (Exists.intro (fun i => i) (And.intro (next _ _ h3 hzb (fun l hl e => rfl) fun j hj => ?_) (And.intro (show n - (z.1 + 1) < n - z.1 by omega) (RenTo.same ?_ fun i u d hb => ⟨u, hb, eqv_refl u⟩))))
              · rw [hGd, if_neg (fun hh => hh.2 h5)]; exact hz0 j hj
              · exact And.intro rfl (And.intro rfl (And.intro rfl (And.intro rfl (And.intro rfl (And.intro rfl (And.intro (slotI (wrapS (by omega))) trivial))))))
          · have h4 : z.1 = x.done := by
              have h4 : ((z.1 : Int) != (x.done : Int)) = false := h4
              simp at h4; omega
            refine Exists.intro (z.1 + 1, z.2.1, z.2.2) (Exists.intro (fun i => i) (And.intro (next _ _ h3 hzb (fun l hl e => rfl) fun j hj => ?_) (And.intro (show n - (z.1 + 1) < n - z.1 by omega) (RenTo.same ?_ fun i u d hb => ⟨u, hb, eqv_refl u⟩))))
            · rw [hGd, if_neg (fun hh => hh.1 h4)]; exact hz0 j hj
            · exact And.intro rfl (And.intro rfl (And.intro rfl (And.intro rfl (And.intro rfl (And.intro rfl (And.intro (slotI (wrapS (by omega))) trivial))))))
        · have h3 : z.1 = n := by have := of_decide_eq_false h3; omega
          refine Exists.intro ⟨x.done + 1, x.place + 1, h1', ρ1, cp1, z.2.1, d1, (fun i => if i = x.done then x.place else x.P i), z.2.2⟩ (Exists.intro (fun i => i) (And.intro ⟨hzb, hgp.ext (by omega) fun l hl j hj => ?_⟩ (And.intro (show w - (x.place + 1) < w - x.place by omega) (RenTo.same ?_ fun i u d hb => ⟨u, hb, eqv_refl u⟩))))
          · show z.2.1 l j = _
            rw [hzv l hl j hj, if_pos (by omega)]
          · exact And.intro rfl (And.intro rfl (And.intro (slotI (wrapS (by omega))) (And.intro (slotI (wrapS (by omega))) trivial)))
      · refine Exists.intro ⟨x.done, x.place + 1, x.h, x.ρ, x.cp, x.f, x.d, x.P, x.M⟩ (Exists.intro (fun i => i) (And.intro ⟨hb, hg.skip h2 fun l h3 h4 => ?_⟩ (And.intro (show w - (x.place + 1) < w - x.place by omega) (RenTo.same ?_ fun i u d hb => ⟨u, hb, eqv_refl u⟩))))
        · have := hall (l - x.done) (by omega)
          rwa [show x.done + (l - x.done) = l by omega] at this
        · exact And.intro rfl (And.intro rfl (And.intro rfl (And.intro (slotI (wrapS (by omega))) trivial)))
    · have h2 : x.place = w := by have := of_decide_eq_false h2; omega
      refine And.intro ⟨by omega, by omega⟩ ?_
      exact hend (.inr h2)
  · have h1 : x.done = n := by have := of_decide_eq_false h1; omega
    refine And.intro ⟨by omega, by omega⟩ ?_
    exact hend (.inl h1)
end Go.Proofs.Ytcocapkdpbdmdaa
