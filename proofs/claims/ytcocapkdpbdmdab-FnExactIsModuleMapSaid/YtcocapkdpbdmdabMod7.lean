/- IsModuleMap, on both sides, and the law: the rest. -/
import Derived.Test.YtcocapkdpbdmdabMod6
set_option linter.unusedVariables false
set_option linter.unusedSimpArgs false
set_option maxRecDepth 100000
set_option maxHeartbeats 1000000
namespace Go.Proofs.Ytcocapkdpbdmdab
open M

theorem l06Images_s (p n d e : Int) (U T Z C S A B F : Nat → Int) (hF : isU8 64 F) :
    Spec Try.prog 35 [hopV p n U T Z C S, modV d A, modV e B, .ints .u8 64 F] [] (Ret (.bool (linB p d e F))) := by
  refine Spec.ret rfl (Spec.of_vc tabOK tabEq Try.func35 rfl (by kernel_rfl) rfl rfl ?_)
  refine LoopVC.of (fun i : Nat => i ≤ 8 ∧ ∀ j, j < i → imageB p d e F j = true) (fun i => [(4, .ptr 0 [] 0 0), (5, .ptr 1 [] 0 0), (6, .ptr 2 [] 0 0), (7, .ptr 3 [] 0 0), (9, .int .i64 i)]) (fun _ => [some (hopV p n U T Z C S, 1106), some (modV d A, 513), some (modV e B, 513), some (.ints .u8 64 F, 64)]) (fun i => 8 - i) 0 ⟨by omega, fun j h => by omega⟩ ?_ ?_ ?_
  · exact (And.intro rfl (And.intro rfl (And.intro rfl (And.intro rfl (And.intro rfl (trivial))))))
  · exact And.intro (And.intro (hopR p n U T Z C S) rfl) (And.intro (And.intro (modR d A) rfl) (And.intro (And.intro (modR e B) rfl) (And.intro (And.intro (rowEq fun _ _ => rfl) rfl) trivial)))
  · rintro i ⟨hi, hall⟩
    refine ifVC_split (fun h => ?_) (fun h => ?_)
    · have hlt := of_decide_eq_true h
      have hidx : (i : Int).toNat = i := by omega
      have hrow : (fun q => F (q + ((i : Int).toNat * 8 + 0))) = partF F 8 i := by rw [hidx]; rfl
      have step : imageB p d e F i = true → ∀ (s : Slots) (m : Mem), eqvO (lk s 4) (.ptr 0 [] 0 0) → eqvO (lk s 5) (.ptr 1 [] 0 0) → eqvO (lk s 6) (.ptr 2 [] 0 0) → eqvO (lk s 7) (.ptr 3 [] 0 0) → eqvO (lk s 9) (.int .i64 (IntKind.i64.wrap ((i : Int) + 1))) → memCut m [some (hopV p n U T Z C S, 1106), some (modV d A, 513), some (modV e B, 513), some (.ints .u8 64 F, 64)] →
          ∃ x' : Nat, (x' ≤ 8 ∧ ∀ j, j < x' → imageB p d e F j = true) ∧ 8 - x' < 8 - i ∧ subL [(4, .ptr 0 [] 0 0), (5, .ptr 1 [] 0 0), (6, .ptr 2 [] 0 0), (7, .ptr 3 [] 0 0), (9, .int .i64 x')] s ∧ memCut m [some (hopV p n U T Z C S, 1106), some (modV d A, 513), some (modV e B, 513), some (.ints .u8 64 F, 64)] := fun he s m h4 h5 h6 h7 h9 hm =>
        ⟨i + 1, ⟨by omega, fun j hj => by
          by_cases hji : j = i
          · subst hji; exact he
          · exact hall j (by omega)⟩, by omega, ⟨h4, h5, h6, h7, by rw [wrapS (by omega)] at h9; exact h9, trivial⟩, hm⟩
      have mEq : memCut [some (hopV p n U T Z C S, 1106), some (modV d A, 513), some (modV e B, 513), some (.ints .u8 64 F, 64)] [some (hopV p n U T Z C S, 1106), some (modV d A, 513), some (modV e B, 513), some (.ints .u8 64 F, 64)] := And.intro (And.intro (hopR p n U T Z C S) rfl) (And.intro (And.intro (modR d A) rfl) (And.intro (And.intro (modR e B) rfl) (And.intro (And.intro (rowEq fun _ _ => rfl) rfl) trivial)))
      refine Exists.intro 21 (And.intro (by kernel_rfl) ?_)
      (repeat (first | refine And.intro (by omega) ?_ | refine And.intro ⟨by omega, by omega⟩ ?_))
      refine Exists.intro (.bool (entriesB p e (partF F 8 i))) (And.intro (And.intro rfl (And.intro rfl ?_)) ?_)
      · rw [hrow]
        exact Spec.mono (l01Vector_s p e _ (part_u8 hF (by omega))) fun r m h => h.1
      refine ifVC_split (fun hv => ?_) (fun hv => ?_)
      · have hv : entriesB p e (partF F 8 i) = false := by simpa using hv
        exact boolEq (by unfold linB; rw [all8_no (i := i) (by omega) (by unfold imageB; rw [hv]; rfl)])
      have hv : entriesB p e (partF F 8 i) = true := by simpa using hv
      refine ifVC_split (fun hb => ?_) (fun hb => ?_)
      · have hb := of_decide_eq_true hb
        (repeat (first | refine And.intro (by omega) ?_ | refine And.intro ⟨by omega, by omega⟩ ?_))
        refine Exists.intro (.bool (allEq 8 (partF F 8 i) fun _ => 0)) (And.intro (And.intro rfl (And.intro rfl ?_)) ?_)
        · rw [hrow]
          exact Spec.mono (l01Zero_s _) fun r m h => h.1
        refine ifVC_split (fun hc => ?_) (fun hc => ?_)
        · have hc : (allEq 8 (partF F 8 i) fun _ => 0) = false := by simpa using hc
          exact boolEq (by unfold linB; rw [all8_no (i := i) (by omega) (by unfold imageB; rw [hv, hc]; simp; omega)])
        · have hc : (allEq 8 (partF F 8 i) fun _ => 0) = true := by simpa using hc
          exact step (by unfold imageB; rw [hv, hc]; simp) _ _ rfl rfl rfl rfl rfl mEq
      · have hb := of_decide_eq_false hb
        exact step (by unfold imageB; rw [hv]; simp; left; omega) _ _ rfl rfl rfl rfl rfl mEq
    · have hge := of_decide_eq_false h
      obtain rfl : i = 8 := by omega
      exact boolEq (by unfold linB; rw [all8_yes hall])


def rowM (p : Int) (A B F : Nat → Int) (i x : Nat) : Bool := allEq 8 (partF (thenF p F (partF A 64 i)) 8 x) (partF (thenF p (partF B 64 i) F) 8 x)
theorem f_zero {p : Int} {d e : Nat} {F : Nat → Int} (h : linB p d e F = true) {x m : Nat} (hx : x < 8) (hm : m < 8) (hz : d ≤ x ∨ e ≤ m) : partF F 8 x m = 0 := by
  have := List.all_eq_true.1 h x (List.mem_range.2 hx)
  simp only [imageB, Bool.and_eq_true, Bool.or_eq_true, decide_eq_true_eq] at this
  rcases hz with hz | hz
  · rcases this.2 with h' | h'
    · omega
    · exact allEq_get h' hm
  · exact (entries_get this.1 hm).2 (by omega)
theorem map_no {p : Int} {n : Nat} {A B F : Nat → Int} {i x : Nat} (hi : i < n) (hx : x < 8) (h : rowM p A B F i x = false) : mapB p n A B F = false := by
  cases hb : mapB p n A B F with
  | false => rfl
  | true =>
    have := allEq64_row (List.all_eq_true.1 hb i (List.mem_range.2 hi)) hx
    unfold rowM at h
    rw [h] at this; cases this
theorem map_yes {p : Int} {n d e : Nat} {A B F : Nat → Int} (hn : n ≤ 8) (hM : ModP p n d A) (hF : linB p d e F = true) (h : ∀ i x, i < n → x < d → rowM p A B F i x = true) : mapB p n A B F = true := by
  refine List.all_eq_true.2 fun i hi => ?_
  have hi := List.mem_range.1 hi
  refine allEq64_rows (d := d) (fun q hq hz => ?_) fun x hx => h i x hi hx
  unfold thenF
  rw [linS_sum, linS_sum, sumN_none 8 fun a ha => ?_, sumN_none 8 fun a ha => ?_]
  · rw [f_zero hF (by omega) ha (.inl hz)]; simp
  · have := hM.zero i (q / 8) a (by omega) (by omega) ha (.inr (.inl hz))
    rw [show partF (partF A 64 i) 8 (q / 8) a = vecT A i (q / 8) a by unfold partF vecT; congr 1; omega, this]
    simp

section
variable (p n : Int) (U T Z C S : Nat → Int) (hU : isU8 8 U) (hT : isU8 512 T) (hZ : isU8 8 Z) (hC : isU8 512 C) (hS : isU8 64 S)
include hU hT hZ hC hS
variable (d : Int) (A : Nat → Int) (hA : isU8 512 A) (e : Int) (B : Nat → Int) (hB : isU8 512 B)
include hA hB

theorem hm2_spec (h : hm2B p n U T Z C S d A e B = true) : ∃ k d' e' : Nat, n = k ∧ d = d' ∧ e = e' ∧ HV p k U T Z C S ∧ primeB p = true ∧ ModP p k d' A ∧ ModP p k e' B ∧ fieldB p e = true := by
  unfold hm2B at h
  simp only [Bool.and_eq_true] at h
  obtain ⟨k, d', rfl, rfl, hV, hpr, hM, _⟩ := hm_spec p n U T Z C S hU hT hZ hC hS d A hA (by unfold hmB; rw [h.1, h.2.1]; rfl)
  have hf := mdl_field h.2.2
  obtain ⟨e', rfl⟩ : ∃ k : Nat, e = k := ⟨e.toNat, by have := (field_bounds hf).2; omega⟩
  have h2 := h.2.2
  unfold mdlB at h2
  simp only [Bool.and_eq_true] at h2
  exact ⟨k, d', e', rfl, rfl, rfl, hV, hpr, hM, mod_of hB hf h2.2.1, hf⟩

variable (F : Nat → Int) (hF : isU8 64 F)
include hF
def mapOk (p n : Int) (U T Z C S : Nat → Int) (d : Int) (A : Nat → Int) (e : Int) (B F : Nat → Int) : Bool := hm2B p n U T Z C S d A e B && linB p d e F
def mapOut (p n : Int) (U T Z C S : Nat → Int) (d : Int) (A : Nat → Int) (e : Int) (B F : Nat → Int) : SV := .tcons (.bool (mapOk p n U T Z C S d A e B F && mapB p n.toNat A B F)) (.tcons (.int .i64 (if mapOk p n U T Z C S d A e B F = true then 0 else 1)) .tnil)

theorem implIsModuleMap_s : Spec Try.prog 19 [hopV p n U T Z C S, modV d A, modV e B, .ints .u8 64 F] [] (Ret (mapOut p n U T Z C S d A e B F)) := by
  refine Spec.ret rfl (Spec.of_vc tabOK tabEq Try.func19 rfl (by kernel_rfl) rfl rfl ?_)
  refine And.intro (And.intro rfl trivial) (Spec.mono (areModules2_s p n U T Z C S hU hT hZ hC hS d A hA e B hB) ?_)
  rintro r m ⟨rfl, rfl⟩
  refine ifVC_split (fun h => ?_) (fun h => ?_)
  · have h : hm2B p n U T Z C S d A e B = false := by simpa using h
    have hc : mapOk p n U T Z C S d A e B F = false := by unfold mapOk; rw [h]; rfl
    exact And.intro (boolEq (by rw [hc]; rfl)) (And.intro (slotI (by simp [hc])) rfl)
  have h : hm2B p n U T Z C S d A e B = true := by simpa using h
  obtain ⟨n, d, e, rfl, rfl, rfl, hV, hpr, hM, hK, hf⟩ := hm2_spec p n U T Z C S hU hT hZ hC hS d A hA e B hB h
  (repeat (first | refine And.intro (by omega) ?_ | refine And.intro ⟨by omega, by omega⟩ ?_))
  refine And.intro trivial (Spec.mono (isLinear_s p d e _ hf (fun q hq => hF _ (by omega))) ?_)
  rintro r m ⟨rfl, rfl⟩
  refine ifVC_split (fun h2 => ?_) (fun h2 => ?_)
  · have h2 : linB p d e F = false := by simpa using h2
    have hc : mapOk p n U T Z C S d A e B F = false := by unfold mapOk; rw [h2]; simp
    exact And.intro (boolEq (by rw [hc]; rfl)) (And.intro (slotI (by simp [hc])) rfl)
  have h2 : linB p d e F = true := by simpa using h2
  have hc : mapOk p n U T Z C S d A e B F = true := by unfold mapOk; rw [h, h2]; rfl
  (repeat (first | refine And.intro (by omega) ?_ | refine And.intro ⟨by omega, by omega⟩ ?_))
  refine And.intro trivial (Spec.mono (mapFault_s p n U T Z C S d e A B _ hV.a.hp hV.a.hn hA hB (fun q hq => hF _ (by omega))) ?_)
  rintro r m ⟨rfl, rfl⟩
  refine And.intro (boolEq ?_) (And.intro (slotI (by simp [hc])) rfl)
  rw [hc, Bool.true_and, Int.toNat_natCast]
  exact fault_none hV.a.hp.1 hV.a.hn A B F

theorem specIsModuleMap_s : Spec Try.prog 17 [hopV p n U T Z C S, modV d A, modV e B, .ints .u8 64 F] [] (Ret (mapOut p n U T Z C S d A e B F)) := by
  refine Spec.ret rfl (Spec.of_vc tabOK tabEq Try.func17 rfl (by kernel_rfl) rfl rfl ?_)
  refine And.intro (And.intro rfl trivial) (Spec.mono (l06Code2_s p n U T Z C S hU hT hZ hC hS d A hA e B hB) ?_)
  rintro r m ⟨rfl, rfl⟩
  refine ifVC_split (fun h => ?_) (fun h => ?_)
  · have h : hm2B p n U T Z C S d A e B = false := code_bad h
    have hc : mapOk p n U T Z C S d A e B F = false := by unfold mapOk; rw [h]; rfl
    exact And.intro (boolEq (by rw [hc]; rfl)) (And.intro (slotI (by simp [hc, h])) rfl)
  have h : hm2B p n U T Z C S d A e B = true := code_ok h
  obtain ⟨n, d, e, rfl, rfl, rfl, hV, hpr, hM, hK, hf⟩ := hm2_spec p n U T Z C S hU hT hZ hC hS d A hA e B hB h
  have hn := hV.a.hn
  have hp := hV.a.hp
  have hd8 := hM.d8
  have he8 := hK.d8
  (repeat (first | refine And.intro (by omega) ?_ | refine And.intro ⟨by omega, by omega⟩ ?_))
  refine And.intro trivial (Spec.mono (l06Images_s p n d e U T Z C S A B _ (fun q hq => hF _ (by omega))) ?_)
  rintro r m ⟨rfl, rfl⟩
  refine ifVC_split (fun h2 => ?_) (fun h2 => ?_)
  · have h2 : linB p d e F = false := by simpa using h2
    have hc : mapOk p n U T Z C S d A e B F = false := by unfold mapOk; rw [h2]; simp
    exact And.intro (boolEq (by rw [hc]; rfl)) (And.intro (slotI (by simp [hc])) rfl)
  have h2 : linB p d e F = true := by simpa using h2
  have hc : mapOk p n U T Z C S d A e B F = true := by unfold mapOk; rw [h, h2]; rfl
  have no : mapB p n A B F = false → SV.eqv (.tcons (.bool false) (.tcons (.int .i64 0) .tnil)) (mapOut p n U T Z C S d A e B F) := fun hb => And.intro (boolEq (by rw [hc, Int.toNat_natCast, hb]; rfl)) (And.intro (slotI (by simp [hc])) rfl)
  have mR0 : memCut [some (hopV p n U T Z C S, 1106), some (modV d A, 513), some (modV e B, 513), some (.ints .u8 64 F, 64), none] [some (hopV p n U T Z C S, 1106), some (modV d A, 513), some (modV e B, 513), some (.ints .u8 64 F, 64), none] := And.intro (And.intro (hopR p n U T Z C S) rfl) (And.intro (And.intro (modR d A) rfl) (And.intro (And.intro (modR e B) rfl) (And.intro (And.intro (rowEq fun _ _ => rfl) rfl) trivial)))
  refine LoopVC.of (fun i : Nat => i ≤ n ∧ ∀ i' x, i' < i → x < d → rowM p A B F i' x = true) (fun i => [(4, .ptr 0 [] 0 0), (5, .ptr 1 [] 0 0), (6, .ptr 2 [] 0 0), (7, .ptr 3 [] 0 0), (11, .int .i64 i)]) (fun _ => [some (hopV p n U T Z C S, 1106), some (modV d A, 513), some (modV e B, 513), some (.ints .u8 64 F, 64), none]) (fun i => n - i) 0 ⟨by omega, fun i' x h => by omega⟩ ?_ ?_ ?_
  · exact (And.intro rfl (And.intro rfl (And.intro rfl (And.intro rfl (And.intro rfl (trivial))))))
  · exact mR0
  · rintro i ⟨hi, hall⟩
    refine ifVC_split (fun h3 => ?_) (fun h3 => ?_)
    · have hlt := of_decide_eq_true h3
      have hidx : (i : Int).toNat = i := by omega
      refine LoopVC.of (fun x : Nat => x ≤ d ∧ ∀ x', x' < x → rowM p A B F i x' = true) (fun x => [(4, .ptr 0 [] 0 0), (5, .ptr 1 [] 0 0), (6, .ptr 2 [] 0 0), (7, .ptr 3 [] 0 0), (11, .int .i64 i), (12, .int .i64 x)]) (fun _ => [some (hopV p n U T Z C S, 1106), some (modV d A, 513), some (modV e B, 513), some (.ints .u8 64 F, 64), none]) (fun x => d - x) 0 ⟨by omega, fun x' h => by omega⟩ ?_ ?_ ?_
      · exact (And.intro rfl (And.intro rfl (And.intro rfl (And.intro rfl (And.intro rfl (And.intro rfl (trivial)))))))
      · exact mR0
      · rintro x ⟨hx, hall'⟩
        refine ifVC_split (fun h4 => ?_) (fun h4 => ?_)
        · have hltx := of_decide_eq_true h4
          have hxdx : (x : Int).toNat = x := by omega
          (repeat (first | refine And.intro (by omega) ?_ | refine And.intro ⟨by omega, by omega⟩ ?_))
          refine LoopVC.of (fun y : Nat => y ≤ d) (fun y => [(4, .ptr 0 [] 0 0), (5, .ptr 1 [] 0 0), (6, .ptr 2 [] 0 0), (7, .ptr 3 [] 0 0), (11, .int .i64 i), (12, .int .i64 x), (13, .ptr 5 [] 0 0), (14, .int .i64 y)]) (fun y => [some (hopV p n U T Z C S, 1106), some (modV d A, 513), some (modV e B, 513), some (.ints .u8 64 F, 64), none, some (.ints .u8 8 fun j => linS F (vecT A i x) y j % p, 8)]) (fun y => d - y) 0 (by omega) ?_ ?_ ?_
          · exact (And.intro rfl (And.intro rfl (And.intro rfl (And.intro rfl (And.intro rfl (And.intro rfl (And.intro rfl (And.intro rfl (trivial)))))))))
          · exact And.intro (And.intro (hopR p n U T Z C S) rfl) (And.intro (And.intro (modR d A) rfl) (And.intro (And.intro (modR e B) rfl) (And.intro (And.intro (rowEq fun _ _ => rfl) rfl) (And.intro (And.intro (rowEq fun j hj => by show updR _ 0 8 _ j = _; simp [updR, hj, linS]) rfl) trivial))))
          · intro y hy
            refine ifVC_split (fun h5 => ?_) (fun h5 => ?_)
            · have hlty := of_decide_eq_true h5
              have hydx : (y : Int).toNat = y := by omega
              refine Exists.intro 16 (And.intro (by kernel_rfl) ?_)
              (repeat (first | refine And.intro (by omega) ?_ | refine And.intro ⟨by omega, by omega⟩ ?_))
              have hA1 := hA (y + (x * 8 + i * 64)) (by omega)
              have ew : A ((y : Int).toNat * 1 + ((x : Int).toNat * 8 + ((i : Int).toNat * 64 + 0))) = vecT A i x y := by rw [hydx, hxdx, hidx]; unfold vecT; congr 1; omega
              refine Exists.intro (.ints .u8 8 fun j => linS F (vecT A i x) (y + 1) j % p) (And.intro (And.intro rfl (And.intro rfl ?_)) ?_)
              · rw [ew, hydx]
                refine Spec.mono (l01Add_s p _ _ _ hp (by rw [wrapI (by unfold vecT; omega)]; unfold vecT; omega) (fun j _ => modB hp) (fun j hj => hF _ (by omega))) ?_
                rintro r m ⟨rfl, _⟩
                refine congrArg (SV.ints .u8 8) (funext fun j => ?_)
                show (linS F (vecT A i x) y (j + 0) % p + IntKind.i64.wrap (vecT A i x y) * F (j + (y * 8 + 0))) % p = (linS F (vecT A i x) y j + vecT A i x y * F (y * 8 + j)) % p
                rw [wrapI (by unfold vecT; omega), Int.emod_add_emod, show j + (y * 8 + 0) = y * 8 + j by omega, Nat.add_zero]
              (repeat (first | refine And.intro (by omega) ?_ | refine And.intro ⟨by omega, by omega⟩ ?_))
              refine Exists.intro (y + 1) (And.intro (by omega) (And.intro (by omega) (And.intro (And.intro rfl (And.intro rfl (And.intro rfl (And.intro rfl (And.intro rfl (And.intro rfl (And.intro rfl (And.intro (slotI (wrapS (by omega))) trivial)))))))) ?_)))
              exact And.intro (And.intro (hopR p n U T Z C S) rfl) (And.intro (And.intro (modR d A) rfl) (And.intro (And.intro (modR e B) rfl) (And.intro (And.intro (rowEq fun _ _ => rfl) rfl) (And.intro (And.intro (rowEq fun j hj => by show updR _ 0 8 _ j = _; simp [updR, hj]) rfl) trivial))))
            · have hge := of_decide_eq_false h5
              obtain rfl : y = d := by omega
              refine Exists.intro 13 (And.intro (by kernel_rfl) ?_)
              (repeat (first | refine And.intro (by omega) ?_ | refine And.intro ⟨by omega, by omega⟩ ?_))
              refine Exists.intro (.ints .u8 8 fun j => linS (partF B 64 i) (partF F 8 x) e j % p) (And.intro (And.intro rfl (And.intro rfl ?_)) ?_)
              · rw [row_is B i hidx, show (fun j => F (j + ((x : Int).toNat * 8 + 0))) = partF F 8 x by rw [hxdx]; rfl]
                exact Spec.mono (l01Apply_s p e _ _ hp he8 (part_u8 hB (by omega)) (part_u8 hF (by omega))) fun r m h => h.1
              have er : allEq 8 (fun j => linS F (vecT A i x) y (j + 0) % p) (fun j => linS (partF B 64 i) (partF F 8 x) e j % p) = rowM p A B F i x := by
                refine allEq_congr (fun j hj => ?_) fun j hj => ?_
                · unfold partF thenF
                  rw [show (j + x * 8) / 8 = x by omega, show (j + x * 8) % 8 = j by omega, Nat.add_zero, ← linS_cut (n := y) 8 hd8 fun a h1 h2 => hM.zero i x a (by omega) (by omega) h2 (.inr (.inr h1))]
                  refine congrArg (· % p) (linS_congr 8 fun a ha => ?_)
                  rw [show vecT A i x a = partF (fun j_1 => A (j_1 + i * 64)) 8 x a by unfold vecT partF; dsimp only; rw [Nat.add_assoc]]
                · show _ = thenF p (partF B 64 i) F (j + x * 8)
                  unfold thenF
                  rw [show (j + x * 8) / 8 = x by omega, show (j + x * 8) % 8 = j by omega, ← linS_cut (n := e) 8 he8 fun a h1 h3 => f_zero h2 (by omega) h3 (.inr h1)]
              refine ifVC_split (fun h6 => ?_) (fun h6 => ?_)
              · have h6 : rowM p A B F i x = false := by rw [← er]; simpa using h6
                exact no (map_no (i := i) (x := x) (by omega) (by omega) h6)
              have h6 : rowM p A B F i x = true := by rw [← er]; simpa using h6
              refine Exists.intro (x + 1) (And.intro ⟨by omega, fun x' hx' => ?_⟩ (And.intro (by omega) (And.intro (And.intro rfl (And.intro rfl (And.intro rfl (And.intro rfl (And.intro rfl (And.intro (slotI (wrapS (by omega))) trivial)))))) ?_)))
              · by_cases hxx : x' = x
                · subst hxx; exact h6
                · exact hall' x' (by omega)
              · exact mR0
        · have hge := of_decide_eq_false h4
          obtain rfl : x = d := by omega
          refine Exists.intro (i + 1) (And.intro ⟨by omega, fun i' x' hi' hx' => ?_⟩ (And.intro (by omega) (And.intro (And.intro rfl (And.intro rfl (And.intro rfl (And.intro rfl (And.intro (slotI (wrapS (by omega))) trivial))))) ?_)))
          · by_cases hii : i' = i
            · subst hii; exact hall' x' hx'
            · exact hall i' x' (by omega) hx'
          · exact mR0
    · have hge := of_decide_eq_false h3
      obtain rfl : i = n := by omega
      have hb := map_yes hn hM h2 hall
      exact And.intro (boolEq (by rw [hc, Int.toNat_natCast, hb]; rfl)) (And.intro (slotI (by simp [hc])) rfl)

theorem lawIsModuleMap_c : Spec Try.prog 6 [hopV p n U T Z C S, modV d A, modV e B, .ints .u8 64 F] [] (Ret (.bool true)) := by
  refine Spec.ret rfl (Spec.of_vc tabOK tabEq Try.func6 rfl (by kernel_rfl) rfl rfl ?_)
  refine Exists.intro 13 (And.intro (by kernel_rfl) ?_)
  refine Exists.intro (hopV p n U T Z C S) (And.intro (And.intro rfl (And.intro rfl (Spec.mono (toHopf_s p n U T Z C S) fun r m h => h.1))) ?_)
  refine Exists.intro (modV d A) (And.intro (And.intro rfl (And.intro rfl (Spec.mono (toModule_s d A) fun r m h => h.1))) ?_)
  refine Exists.intro (modV e B) (And.intro (And.intro rfl (And.intro rfl (Spec.mono (toModule_s e B) fun r m h => h.1))) ?_)
  (repeat (first | refine And.intro (by omega) ?_ | refine And.intro ⟨by omega, by omega⟩ ?_))
  refine Exists.intro (.ints .u8 64 F) (And.intro (And.intro rfl (And.intro rfl (Spec.mono (toLinear_s _) fun r m h => h.1))) ?_)
  refine Exists.intro (mapOut p n U T Z C S d A e B F) (And.intro (And.intro rfl (And.intro rfl (Spec.mono (specIsModuleMap_s p n U T Z C S hU hT hZ hC hS d A hA e B hB F hF) fun r m h => h.1))) ?_)
  (repeat (first | refine And.intro (by omega) ?_ | refine And.intro ⟨by omega, by omega⟩ ?_))
  refine Exists.intro 13 (And.intro (by kernel_rfl) ?_)
  refine Exists.intro (hopV p n U T Z C S) (And.intro (And.intro rfl (And.intro rfl (Spec.mono (toHopf_s p n U T Z C S) fun r m h => h.1))) ?_)
  refine Exists.intro (modV d A) (And.intro (And.intro rfl (And.intro rfl (Spec.mono (toModule_s d A) fun r m h => h.1))) ?_)
  refine Exists.intro (modV e B) (And.intro (And.intro rfl (And.intro rfl (Spec.mono (toModule_s e B) fun r m h => h.1))) ?_)
  (repeat (first | refine And.intro (by omega) ?_ | refine And.intro ⟨by omega, by omega⟩ ?_))
  refine Exists.intro (.ints .u8 64 F) (And.intro (And.intro rfl (And.intro rfl (Spec.mono (toLinear_s _) fun r m h => h.1))) ?_)
  refine Exists.intro (mapOut p n U T Z C S d A e B F) (And.intro (And.intro rfl (And.intro rfl (Spec.mono (implIsModuleMap_s p n U T Z C S hU hT hZ hC hS d A hA e B hB F hF) fun r m h => h.1))) ?_)
  (repeat (first | refine And.intro (by omega) ?_ | refine And.intro ⟨by omega, by omega⟩ ?_))
  refine ifVC_false (by simp) ?_
  refine ifVC_false (by simp) ?_
  exact boolEq rfl
end
end Go.Proofs.Ytcocapkdpbdmdab
