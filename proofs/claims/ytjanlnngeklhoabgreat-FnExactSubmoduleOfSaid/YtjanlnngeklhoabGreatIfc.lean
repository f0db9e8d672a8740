/- Calls of methods through an interface. -/
import Derived.Test.YtjanlnngeklhoabGreatLogB
set_option linter.unusedVariables false
set_option linter.unusedSimpArgs false
namespace Go.Proofs.YtjanlnngeklhoabGreat
variable {P : Program} {T : Tab} {N : Nat} {ops : Array Oper} {o : Oper} {rest : List Oper} {s : Slots} {m : Mem} {K : Slots → Mem → Prop}

/-- structs that are not held against one another: with slices, single cells or structs among the fields -/
theorem fits_never {t : TypeId} : ∀ {ks : List FK}, (ks.any fun k => match k with | .slice | .scal | .agg _ => true | _ => false) = true → ∀ v, fitsF ks v = false
  | [], h => by simp at h
  | .slice :: r, _ => fun v => by cases hv : fitsF (.slice :: r) v with | false => rfl | true => exact (fits_slice hv).elim
  | .scal :: r, _ => fun v => by cases hv : fitsF (.scal :: r) v with | false => rfl | true => exact (fits_scal hv).elim
  | .agg n :: r, _ => fun v => by cases hv : fitsF (.agg n :: r) v with | false => rfl | true => exact (fits_agg' hv).elim
  | .int k :: r, h => fun v => by
    cases hv : fitsF (.int k :: r) v with
    | false => rfl
    | true => obtain ⟨x, b, rfl, hb⟩ := fits_int hv; rw [fits_never (t := t) (ks := r) (by simpa using h)] at hb; cases hb
  | .row k n :: r, h => fun v => by
    cases hv : fitsF (.row k n :: r) v with
    | false => rfl
    | true => obtain ⟨x, b, rfl, hb⟩ := fits_row hv; rw [fits_never (t := t) (ks := r) (by simpa using h)] at hb; cases hb
theorem PairOK.never {t : TypeId} {ks : List FK} (h : (ks.any fun k => match k with | .slice | .scal | .agg _ => true | _ => false) = true) : PairOK P t ks := by
  intro X Y μ a b c d w h1 h2
  rw [fits_never (t := t) h] at h1
  cases h1

theorem ren_pure0 (ρ : Nat → Nat) : ∀ v : SV, v.pure0 = true → v.ren ρ = v := by
  intro v
  induction v with
  | pair a b iha ihb =>
    intro h
    simp only [SV.pure0, Bool.and_eq_true] at h
    show SV.pair (a.ren ρ) (b.ren ρ) = _
    rw [iha h.1, ihb h.2]
  | _ => intro h; first | rfl | cases h
theorem backGo_nil (ρ : Nat → Nat) (m' : Mem) : ∀ (m : Mem) (k : Nat), backGo ρ [] m' k m = m
  | [], _ => rfl
  | x :: r, k => by show x :: backGo ρ [] m' (k + 1) r = _; rw [backGo_nil ρ m' r]
theorem backMem_nil (ρ : Nat → Nat) (m : Mem) : backMem ρ m [] [] = m := by
  show backGo ρ [] [] 0 m ++ ([] : Mem) = m
  rw [backGo_nil, List.append_nil]
theorem pure_ids : ∀ (l : List SV), l.all SV.pure0 = true → idsOf l = []
  | [], _ => rfl
  | a :: r, h => by
    simp only [List.all_cons, Bool.and_eq_true] at h
    show a.ids ++ idsOf r = []
    rw [pure0_ids a h.1, pure_ids r h.2]
    rfl
theorem pure_ren (ρ : Nat → Nat) : ∀ (l : List SV), l.all SV.pure0 = true → l.map (SV.ren ρ) = l
  | [], _ => rfl
  | a :: r, h => by
    simp only [List.all_cons, Bool.and_eq_true] at h
    show a.ren ρ :: r.map (SV.ren ρ) = _
    rw [ren_pure0 ρ a h.1, pure_ren ρ r h.2]
/-- a call by value where nothing leads to a block -/
theorem callVC_val {f : Nat} {args : List SV} {r0 : SV} {K : SV → Mem → Prop} (ha : args.all SV.pure0 = true) (hr : r0.pure0 = true) (h : Spec P f args [] (Ret r0)) (hk : K r0 m) : callVC P f args m K := by
  unfold callVC
  rw [pure_ids args ha]
  refine And.intro trivial ?_
  rw [pure_ren _ args ha]
  refine Spec.mono h ?_
  rintro r m' ⟨rfl, rfl⟩
  rw [ren_pure0 _ r hr, backMem_nil]
  exact hk
theorem opsVC_mvI {x : Operand} {v : SV} (hg : o.guard = none) (ho : o.op = .move x) (hx : ev s x = some v) (hk : opsVC P T N ops rest (sset N s o.dst v) m K) : opsVC P T N ops (o :: rest) s m K := by
  simp only [opsVC, guardVC, hg, oneVC, ho, readVC, hx]
  exact hk
theorem opsVC_inv {c : Call} {x : Operand} {name : String} {t f : Nat} {v r0 : SV} {args : List SV} (hg : o.guard = none) (ho : o.op = .call c) (hc : c.callee = .invoke x name) (hx : ev s x = some (.ifc t v)) (hargs : evs s c.args.toList = some args)
    (hm : T.meth t name = some f) (hv : v.pure0 = true) (ha : args.all SV.pure0 = true) (hr : r0.pure0 = true) (h : Spec P f (v :: args) [] (Ret r0)) (hk : opsVC P T N ops rest (sset N s o.dst r0) m K) : opsVC P T N ops (o :: rest) s m K := by
  simp only [opsVC, guardVC, hg, oneVC, ho, hc, hx, hargs, hm]
  refine chk_iff.2 ⟨hv, ?_⟩
  exact callVC_val (by simp [hv, ha]) hr h hk
end Go.Proofs.YtjanlnngeklhoabGreat
