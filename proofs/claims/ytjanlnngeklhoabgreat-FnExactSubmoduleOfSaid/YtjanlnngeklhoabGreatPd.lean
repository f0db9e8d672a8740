/- Texts in one: Open, Wit, Math, Rref, Primes, Vec, Rows2, Model, OpenAlg, Table, Shape, AlgMath, Fault, IsAlg, Prod, Mul, MulLaw, Pow, Ints, First, CoMath, Dual, CoSpec. -/
import Derived.Test.YtjanlnngeklhoabGreatLogB
import Derived.ProofKit
import Derived.OpenShut
import Derived.Handed
import Derived.Below
import Derived.Test.YtjanlnngeklhoabGreatProg
import Derived.WalkKit
import Derived.Lib.Hide
import Derived.IntWalk
import Derived.Test.YtjanlnngeklhoabGreatTab
set_option linter.unusedSimpArgs false
set_option linter.unusedVariables false
set_option linter.unusedSectionVars false
/- Arguments that hold numbers alone: what they read as does not hang on memory; and their cells as plain data. -/
set_option linter.unusedVariables false
set_option linter.unusedSimpArgs false
namespace Go.Proofs.YtjanlnngeklhoabGreat
variable {P : Program} {H : Type} {enc : TypeId × Value → H}

/-- a type of numbers and bools alone -/
def pureT (P : Program) : Nat → TypeId → Bool
  | 0, _ => false
  | d + 1, t => match P.underlying t with
    | some (.int _) | some .bool => true
    | some (.array _ e) => pureT P d e
    | some (.struct fs) => fs.toList.all fun f => pureT P d f.type
    | _ => false

theorem mapM_congr' {α β : Type} {f g : α → Option β} : ∀ (l : List α), (∀ x ∈ l, f x = g x) → l.mapM f = l.mapM g
  | [], _ => rfl
  | x :: r, h => by
    simp only [List.mapM_cons]
    rw [h x (by simp), mapM_congr' r fun y hy => h y (by simp [hy])]

theorem trod_any : ∀ (d : Nat) (t : TypeId), pureT P d t = true → ∀ (fuel : Nat) (cs : List Value) (w w' : World) (b b' : Nat) (sp sp' : Nat → Bool) (hd hd' : Bool),
    DataW.trod enc P w b sp hd fuel t cs = DataW.trod enc P w' b' sp' hd' fuel t cs
  | 0, t, h, _, _, _, _, _, _, _, _, _, _ => by cases h
  | d + 1, t, h, 0, _, _, _, _, _, _, _, _, _ => rfl
  | d + 1, t, h, fuel + 1, cs, w, w', b, b', sp, sp', hd, hd' => by
    unfold pureT at h
    unfold DataW.trod
    split at h
    · rename_i k hk; rw [hk]; rcases cs with _ | ⟨c, _ | ⟨c2, r⟩⟩ <;> (try cases c) <;> rfl
    · rename_i hk; rw [hk]; rcases cs with _ | ⟨c, _ | ⟨c2, r⟩⟩ <;> (try cases c) <;> rfl
    · rename_i n e hk
      rw [hk]
      simp only
      split
      · congr 1
        refine mapM_congr' _ fun i _ => ?_
        exact trod_any d e h fuel _ w w' b b' sp sp' hd hd'
      · rfl
    · rename_i fs hk
      rw [hk]
      simp only
      split
      · congr 1
        refine mapM_congr' _ fun f hf => ?_
        exact trod_any d f.type (List.all_eq_true.1 h f hf) fuel _ w w' b b' sp sp' hd hd'
      · rfl
    · cases h

/-- such an argument reads in every world as it reads in one -/
theorem Trod_any {d : Nat} {t : TypeId} (h : pureT P d t = true) {w w' : World} {b b' : Nat} {sp sp' : Nat → Bool} {hd hd' : Bool} {v : Value} {x : DataW H} {ps : List MemPlace}
    (ht : DataW.Trod enc P w b sp hd t v x ps) : DataW.Trod enc P w' b' sp' hd' t v x ps := by
  obtain ⟨fuel, hf⟩ := ht
  exact ⟨fuel, by rw [← hf]; exact trod_any d t h fuel _ _ _ _ _ _ _ _ _⟩
theorem cellsOf_of {t n : Nat} (h : (P.info? t).map (·.size) = some n) : P.cellsOf t = n := by
  unfold Program.cellsOf; rw [h]; rfl

theorem trod_int_cell {w : World} {b fuel : Nat} {sp : Nat → Bool} {hd : Bool} {t : TypeId} {k : IntKind} {cs : List Value} {x : DataW H × List MemPlace} (ht : P.underlying t = some (.int k))
    (h : DataW.trod enc P w b sp hd fuel t cs = some x) : ∃ q, cs = [.int k q] ∧ (Lit.int k q).wf = true ∧ x.2 = [] := by
  obtain ⟨n, h1, h2, h3⟩ := DataW.trod_int ht h
  exact ⟨n, h1, h3, by rw [h2]⟩

theorem flatMap_nil' {α β : Type} {f : α → List β} : ∀ (l : List α), (∀ x ∈ l, f x = []) → l.flatMap f = []
  | [], _ => rfl
  | x :: r, h => by simp [h x (by simp), flatMap_nil' r fun y hy => h y (by simp [hy])]

theorem open_row {w : World} {b : Nat} {sp : Nat → Bool} {hd : Bool} {t : TypeId} {k : IntKind} {n d : Nat} (hr : RowT P t k n d) : ∀ (fuel : Nat) (cs : List Value) (x : DataW H × List MemPlace), (P.info? t).map (·.size) = some n →
    DataW.trod enc P w b sp hd fuel t cs = some x → cs.length = n ∧ (∀ j, j < n → ∃ q, cs[j]? = some (.int k q) ∧ (Lit.int k q).wf = true) ∧ x.2 = [] := by
  induction hr with
  | @one t e k len h he hs =>
    intro fuel cs x hsz ht
    obtain ⟨xs, m, rfl, rfl, hl, hxl, hx⟩ := Go.DataW.trod_array h ht
    rw [cellsOf_of hsz] at hl
    rw [cellsOf_of hs] at hx
    have each : ∀ j, j < len → ∃ q, cs[j]? = some (.int k q) ∧ (Lit.int k q).wf = true ∧ ∀ y, xs[j]? = some y → y.2 = [] := fun j hj => by
      have hxj := hx j hj
      have hxs : xs[j]? = some xs[j] := List.getElem?_eq_getElem (by omega)
      rw [hxs] at hxj
      obtain ⟨q, h1, h2, h3⟩ := trod_int_cell he hxj
      refine ⟨q, ?_, h2, fun y hy => by rw [hxs] at hy; cases hy; exact h3⟩
      have := congrArg (·[0]?) h1
      simp only [Nat.mul_one, List.getElem?_cons_zero] at this
      rw [List.getElem?_take_of_lt (by omega), List.getElem?_drop] at this
      simpa using this
    refine ⟨hl, fun j hj => let ⟨q, h1, h2, _⟩ := each j hj; ⟨q, h1, h2⟩, ?_⟩
    refine flatMap_nil' _ fun y hy => ?_
    obtain ⟨j, hj⟩ := List.mem_iff_getElem?.1 hy
    obtain ⟨_, _, _, h3⟩ := each j (by rw [← hxl]; exact (List.getElem?_eq_some_iff.1 hj).1)
    exact h3 y hj
  | @more t e k len m d h he hs ih =>
    intro fuel cs x hsz ht
    obtain ⟨xs, g, rfl, rfl, hl, hxl, hx⟩ := Go.DataW.trod_array h ht
    rw [cellsOf_of hsz] at hl
    rw [cellsOf_of hs] at hx
    have each : ∀ i, i < len → (∀ j, j < m → ∃ q, cs[i * m + j]? = some (.int k q) ∧ (Lit.int k q).wf = true) ∧ ∀ y, xs[i]? = some y → y.2 = [] := fun i hi => by
      have hxi := hx i hi
      have hxs : xs[i]? = some xs[i] := List.getElem?_eq_getElem (by omega)
      rw [hxs] at hxi
      obtain ⟨h1, h2, h3⟩ := ih g _ _ hs hxi
      refine ⟨fun j hj => ?_, fun y hy => by rw [hxs] at hy; cases hy; exact h3⟩
      obtain ⟨q, hq, hw⟩ := h2 j hj
      rw [List.getElem?_take_of_lt hj, List.getElem?_drop] at hq
      exact ⟨q, hq, hw⟩
    refine ⟨hl, fun j hj => ?_, ?_⟩
    · have hm : 0 < m := Nat.pos_of_ne_zero (by rintro rfl; simp at hj)
      have h1 : j / m < len := (Nat.div_lt_iff_lt_mul hm).2 hj
      obtain ⟨q, hq, hw⟩ := (each (j / m) h1).1 (j % m) (Nat.mod_lt _ hm)
      rw [show j / m * m + j % m = j by rw [Nat.mul_comm]; exact Nat.div_add_mod j m] at hq
      exact ⟨q, hq, hw⟩
    · refine flatMap_nil' _ fun y hy => ?_
      obtain ⟨i, hi⟩ := List.mem_iff_getElem?.1 hy
      exact (each i (by rw [← hxl]; exact (List.getElem?_eq_some_iff.1 hi).1)).2 y hi

/-- the numbers of a row -/
def numAt (cs : List Value) (j : Nat) : Int := match cs[j]? with | some (.int _ q) => q | _ => 0

theorem row_cells {μ : Nat → Nat} {k : IntKind} {n : Nat} {cs : List Value} (hl : cs.length = n) (h : ∀ j, j < n → ∃ q, cs[j]? = some (.int k q) ∧ (Lit.int k q).wf = true) :
    cs = flat μ (.ints k n (numAt cs)) ∧ ∀ j, j < n → (Lit.int k (numAt cs j)).wf = true := by
  have hn : ∀ j, j < n → cs[j]? = some (.int k (numAt cs j)) ∧ (Lit.int k (numAt cs j)).wf = true := fun j hj => by
    obtain ⟨q, h1, h2⟩ := h j hj
    have : numAt cs j = q := by unfold numAt; rw [h1]
    rw [this]; exact ⟨h1, h2⟩
  refine ⟨List.ext_getElem? fun j => ?_, fun j hj => (hn j hj).2⟩
  by_cases hj : j < n
  · rw [(hn j hj).1, flat_ints_get μ k n _ j hj]
  · rw [List.getElem?_eq_none (by omega), List.getElem?_eq_none (by simp [flat]; omega)]

/-- an argument that is a row of numbers -/
theorem open_rowArg {w : World} {r : Reach} {b0 b : Nat} {sp : Nat → Bool} {hd : Bool} {t : TypeId} {k : IntKind} {n d : Nat} (hr : RowT P t k n d) (hsz : (P.info? t).map (·.size) = some n) {v : Value} {x : DataW H} {ps : List MemPlace}
    (hval : Value.okWide P w r b0 t v) (ht : DataW.Trod enc P w b sp hd t v x ps) : ∃ f : Nat → Int, (∀ μ, v = toVal μ (.ints k n f)) ∧ (∀ j, j < n → (Lit.int k (f j)).wf = true) ∧ ps = [] := by
  obtain ⟨y, hy, hrow⟩ := hr.row
  unfold Value.okWide at hval
  rw [hy] at hval
  have hagg : ∃ cs : Array Value, v = .agg cs := by
    cases y <;> first | (obtain ⟨cs, h, _⟩ := hval; exact ⟨cs, h⟩) | cases hrow
  obtain ⟨cs, rfl⟩ := hagg
  obtain ⟨fuel, hf⟩ := ht
  obtain ⟨h1, h2, h3⟩ := open_row hr fuel _ _ hsz hf
  obtain ⟨g1, g2⟩ := row_cells (μ := fun _ => 0) h1 h2
  refine ⟨numAt (Value.agg cs).cells.toList, fun μ => ?_, g2, h3⟩
  have e : toVal μ (.ints k n (numAt (Value.agg cs).cells.toList)) = toVal (fun _ => 0) (.ints k n (numAt (Value.agg cs).cells.toList)) := rfl
  rw [e]
  show Value.agg cs = Value.agg (flat (fun _ => 0) (.ints k n (numAt (Value.agg cs).cells.toList))).toArray
  rw [← g1]
  rfl

theorem u8_bounds {q : Int} (h : (Lit.int .u8 q).wf = true) : 0 ≤ q ∧ q < 256 := by
  have := bounds_u8 h
  omega

/-- a contract over no blocks, as the rows ask it of a law -/
theorem law_of {P : Program} {f : Nat} {args : List SV} (h : Spec P f args [] (Ret (.bool true))) (μ : Nat → Nat) (w : World) :
    Calls P f (args.map (toVal μ)).toArray w fun e w' => e = .returned (.bool true) ∧ Go.RowKit.Grown w w' := by
  refine (h.run μ w ⟨fun id v c hb => (by cases hb), fun i j hi => (by cases hi), fun id v c hb => (by cases hb)⟩).mono ?_
  rintro e w' ⟨μ', r, m', rfl, ⟨rfl, rfl⟩, _, _, _, _, _, hk⟩
  have hold : ∀ i, i < w.heap.size → w'.heap[i]? = w.heap[i]? := fun i hi => hk.old i hi fun id hs => by cases hs
  refine ⟨rfl, ⟨hk.rest.1, hk.rest.2.1, fun i hi => ?_⟩, fun a => ?_, hk.size⟩
  · rw [hold i hi]
    cases w.heap[i]? with
    | none => rfl
    | some o => cases o <;> first | rfl | exact ⟨rfl, rfl, rfl, fun _ _ => rfl⟩ | exact .inr ⟨rfl, rfl⟩
  · exact hk.fro a
end Go.Proofs.YtjanlnngeklhoabGreat

/- A witness's arguments are in form: checked cell by cell in one pass. -/
set_option linter.unusedVariables false
set_option linter.unusedSimpArgs false
namespace Go.Proofs.YtjanlnngeklhoabGreat
variable {P : Program}

/-- the cells of a row against their types, side by side -/
def rowZB (P : Program) (w : World) (t : TypeId) (cs : Array Value) : Bool :=
  match P.cellTypes P.depth t with
  | some ts => Nat.beq cs.toList.length ts.length && Nat.blt 0 ts.length && (cs.toList.zip ts).all fun p => Cell.okWideB P w p.2 p.1
  | none => false

theorem rowZ {w : World} {t : TypeId} {cs : Array Value} (h : rowZB P w t cs = true) : Cell.okWideRowB P w t cs = true := by
  unfold rowZB at h
  unfold Cell.okWideRowB
  split at h
  · rename_i ts hts
    simp only [hts]
    simp only [Bool.and_eq_true] at h
    obtain ⟨⟨h1, h2⟩, h3⟩ := h
    have hl : cs.toList.length = ts.length := Nat.eq_of_beq_eq_true h1
    have hs : cs.size = ts.length := by rw [← hl]; simp
    simp only [Bool.and_eq_true, beq_iff_eq, List.all_eq_true, List.mem_range]
    refine ⟨by rw [hs]; exact Nat.mod_self _, fun i hi => ?_⟩
    have hit : i < ts.length := by omega
    rw [Nat.mod_eq_of_lt hit, Array.getElem?_eq_getElem hi, List.getElem?_eq_getElem hit]
    have hz : (cs.toList.zip ts)[i]? = some (cs[i], ts[i]) := by
      rw [List.getElem?_zip_eq_some]
      exact ⟨by rw [Array.getElem?_toList, Array.getElem?_eq_getElem hi], List.getElem?_eq_getElem hit⟩
    exact List.all_eq_true.1 h3 _ (List.mem_of_getElem? hz)
  · cases h

def valZB (P : Program) (w : World) (t : TypeId) (v : Value) : Bool :=
  match P.underlying t with
  | some (.struct _) | some (.array _ _) =>
    match v with
    | .agg cs => cs.size == P.cellsOf t && rowZB P w t cs
    | _ => false
  | _ => Cell.okWideB P w t v
theorem valZ {w : World} {t : TypeId} {v : Value} (h : valZB P w t v = true) : Value.okWideB P w t v = true := by
  unfold valZB at h
  unfold Value.okWideB
  split at h
  · rename_i fs hu
    simp only [hu]
    cases v <;> simp only [Bool.false_eq_true, Bool.and_eq_true] at h ⊢
    exact ⟨h.1, rowZ h.2⟩
  · rename_i n e hu
    simp only [hu]
    cases v <;> simp only [Bool.false_eq_true, Bool.and_eq_true] at h ⊢
    exact ⟨h.1, rowZ h.2⟩
  · rename_i h1 h2
    split
    · rename_i fs hu; exact absurd hu (h1 fs)
    · rename_i n e hu; exact absurd hu (h2 n e)
    · exact h

def inputZB (P : Program) (w : World) (f : FuncId) (i : Input) : Bool :=
  (i.blocks.toList.all fun
    | .cells cs t (0, 0) => P.buildable t && Row.okRefB P w t cs
    | _ => false) &&
  i.vars.isEmpty && (P.inits.idxOf? f).isNone &&
  match P.funcs[f]? with
  | some fn => fn.body.isSome && !fn.ours && fn.nfree == 0 && i.args.size == fn.params.size &&
      (List.range fn.params.size).all fun j =>
        match fn.params[j]?, i.args[j]? with
        | some t, some v => valZB P w t v
        | _, _ => false
  | none => false
theorem inputZ {w : World} {f : FuncId} {i : Input} (h : inputZB P w f i = true) : Input.okWideB P w f i = true := by
  unfold inputZB at h
  unfold Input.okWideB
  simp only [Bool.and_eq_true] at h ⊢
  refine ⟨h.1, ?_⟩
  have h2 := h.2
  split at h2
  · rename_i fn hf
    simp only [hf]
    simp only [Bool.and_eq_true, List.all_eq_true, List.mem_range] at h2 ⊢
    refine ⟨h2.1, fun j hj => ?_⟩
    have := h2.2 j hj
    split at this
    · rename_i t v ht hv
      simp only [ht, hv]
      exact valZ this
    · cases this
  · cases h2
end Go.Proofs.YtjanlnngeklhoabGreat

/- plain facts on numbers for the primes; imports nothing of the translation -/
set_option linter.unusedVariables false
set_option linter.unusedSimpArgs false
namespace Go.Proofs.YtjanlnngeklhoabGreat.M

/-- the primes up to 31 -/
def primeB (p : Int) : Bool := [2, 3, 5, 7, 11, 13, 17, 19, 23, 29, 31].contains p

theorem primeB_out {p : Int} (h : p < 2 ∨ 31 < p) : primeB p = false := by
  unfold primeB; simp; omega

theorem primeN : ∀ p : Fin 32, 2 ≤ p.val → ∀ d : Fin 32, 2 ≤ d.val → p.val % d.val = 0 → d.val < p.val → primeB (p.val : Int) = false := by decide
theorem primeY : ∀ p : Fin 32, 2 ≤ p.val → (∀ e : Fin 32, 2 ≤ e.val → e.val < p.val → p.val % e.val ≠ 0) → primeB (p.val : Int) = true := by decide

theorem primeB_div {p d : Int} (h2 : 2 ≤ p) (h31 : p ≤ 31) (hd : 2 ≤ d) (hlt : d < p) (h : p % d = 0) : primeB p = false := by
  obtain ⟨n, rfl⟩ := Int.eq_ofNat_of_zero_le (show 0 ≤ p by omega)
  obtain ⟨k, rfl⟩ := Int.eq_ofNat_of_zero_le (show 0 ≤ d by omega)
  exact primeN ⟨n, by omega⟩ (by simp; omega) ⟨k, by omega⟩ (by simp; omega) (by simp; omega) (by simp; omega)

theorem primeB_all {p : Int} (h2 : 2 ≤ p) (h31 : p ≤ 31) (h : ∀ e : Int, 2 ≤ e → e < p → p % e ≠ 0) : primeB p = true := by
  obtain ⟨n, rfl⟩ := Int.eq_ofNat_of_zero_le (show 0 ≤ p by omega)
  refine primeY ⟨n, by omega⟩ (by simp; omega) fun e he hlt h0 => ?_
  have := h (e.val : Int) (by omega) (by simp at hlt; omega)
  simp at h0
  omega

/-- no divisor below d, and d * d more than p: a prime -/
theorem primeQ : ∀ p : Fin 32, 2 ≤ p.val → ∀ d : Fin 8, 2 ≤ d.val → p.val < d.val * d.val → (∀ e : Fin 8, 2 ≤ e.val → e.val < d.val → e.val * e.val ≤ p.val → p.val % e.val ≠ 0) → primeB (p.val : Int) = true := by decide
theorem primeB_sq {p d : Int} (h2 : 2 ≤ p) (h31 : p ≤ 31) (hd : 2 ≤ d) (hd6 : d ≤ 6) (hlt : p < d * d) (h : ∀ e : Int, 2 ≤ e → e < d → p % e ≠ 0) : primeB p = true := by
  obtain ⟨n, rfl⟩ := Int.eq_ofNat_of_zero_le (show 0 ≤ p by omega)
  obtain ⟨k, rfl⟩ := Int.eq_ofNat_of_zero_le (show 0 ≤ d by omega)
  refine primeQ ⟨n, by omega⟩ (by simp; omega) ⟨k, by omega⟩ (by simp; omega) (by simp; exact_mod_cast hlt) fun e he hlt _ h0 => ?_
  have := h (e.val : Int) (by omega) (by simp at hlt; omega)
  simp at h0
  omega
theorem sq_le_six {p d : Int} (h31 : p ≤ 31) (hd : 2 ≤ d) (h : d * d ≤ p) : d ≤ 5 := by
  rcases Int.lt_or_le 5 d with h6 | h6
  · have : 6 * 6 ≤ d * d := Int.mul_le_mul (by omega) (by omega) (by omega) (by omega)
    omega
  · exact h6
theorem div_lt {p d : Int} (hd : 2 ≤ d) (h : d * d ≤ p) : d < p := by
  have : 2 * d ≤ d * d := Int.mul_le_mul_of_nonneg_right hd (by omega)
  omega
end Go.Proofs.YtjanlnngeklhoabGreat.M

/- Reduced lists of rows modulo p: a space has one alone. Plain facts on numbers; nothing of the translation. -/
set_option linter.unusedVariables false
set_option linter.unusedSimpArgs false
namespace Go.Proofs.YtjanlnngeklhoabGreat.M

theorem mod_in (p a b c : Int) : (a + c * (b % p)) % p = (a + c * b) % p := by
  have h : b = b % p + p * (b / p) := (Int.emod_add_mul_ediv b p).symm
  generalize b % p = r at *
  generalize b / p = q at *
  subst h
  rw [show a + c * (r + p * q) = a + c * r + p * (c * q) by grind, Int.add_mul_emod_self_left]
theorem mod_l (p a b : Int) : (a % p + b) % p = (a + b) % p := by
  have := mod_in p b a 1
  rw [Int.one_mul, Int.one_mul, Int.add_comm, Int.add_comm b a] at this
  exact this
theorem mod_id {p a : Int} (h : 0 ≤ a ∧ a < p) : a % p = a := Int.emod_eq_of_lt h.1 h.2
theorem mod_rng {p : Int} (hp : 0 < p) (a : Int) : 0 ≤ a % p ∧ a % p < p := ⟨Int.emod_nonneg _ (by omega), Int.emod_lt_of_pos _ hp⟩

/-- what is reached from n rows of w numbers: sums of multiples, modulo p -/
inductive Sp (p : Int) (w n : Nat) (f : Nat → Nat → Int) : (Nat → Int) → Prop where
  | zero (v : Nat → Int) (h : ∀ j, j < w → v j = 0) : Sp p w n f v
  | add (v u : Nat → Int) (c : Int) (i : Nat) (hi : i < n) (h : Sp p w n f v) (hu : ∀ j, j < w → u j = (v j + c * f i j) % p) : Sp p w n f u

theorem Sp.range {p : Int} {w n : Nat} {f : Nat → Nat → Int} (hp : 0 < p) {v : Nat → Int} (h : Sp p w n f v) : ∀ j, j < w → 0 ≤ v j ∧ v j < p := by
  cases h with
  | zero v h => intro j hj; rw [h j hj]; omega
  | add v u c i hi h hu => intro j hj; rw [hu j hj]; exact mod_rng hp _
theorem Sp.ext {p : Int} {w n : Nat} {f : Nat → Nat → Int} {v u : Nat → Int} (h : Sp p w n f v) (e : ∀ j, j < w → u j = v j) : Sp p w n f u := by
  cases h with
  | zero v h => exact .zero u fun j hj => by rw [e j hj, h j hj]
  | add v' u' c i hi h hu => exact .add v' u c i hi h fun j hj => by rw [e j hj, hu j hj]
theorem Sp.addc {p : Int} {w n : Nat} {f : Nat → Nat → Int} (hp : 0 < p) {v u : Nat → Int} (hv : Sp p w n f v) (hu : Sp p w n f u) (c : Int) : Sp p w n f fun j => (v j + c * u j) % p := by
  induction hu with
  | zero u h => exact hv.ext fun j hj => by rw [h j hj, Int.mul_zero, Int.add_zero, mod_id (hv.range hp j hj)]
  | add u u' d i hi h hu' ih =>
    refine .add _ _ (c * d) i hi ih fun j hj => ?_
    show (v j + c * u' j) % p = ((v j + c * u j) % p + c * d * f i j) % p
    rw [hu' j hj, mod_in, mod_l]
    congr 1
    grind
theorem Sp.row {p : Int} {w n : Nat} {f : Nat → Nat → Int} {i : Nat} (hi : i < n) (hf : ∀ j, j < w → 0 ≤ f i j ∧ f i j < p) : Sp p w n f (f i) :=
  .add (fun _ => 0) _ 1 i hi (.zero _ fun _ _ => rfl) fun j hj => by rw [Int.zero_add, Int.one_mul, mod_id (hf j hj)]
theorem Sp.sub {p : Int} {w n n' : Nat} {f f' : Nat → Nat → Int} (hp : 0 < p) (h : ∀ i, i < n → Sp p w n' f' (f i)) {v : Nat → Int} (hv : Sp p w n f v) : Sp p w n' f' v := by
  induction hv with
  | zero v h0 => exact .zero v h0
  | add v u c i hi hv hu ih => exact (ih.addc hp (h i hi) c).ext fun j hj => hu j hj

/-- a set of rows that sums of multiples do not leave -/
structure Space (p : Int) (w : Nat) (S : (Nat → Int) → Prop) : Prop where
  range : ∀ v, S v → ∀ j, j < w → 0 ≤ v j ∧ v j < p
  ext : ∀ v u, S v → (∀ j, j < w → u j = v j) → S u
  zero : ∀ v, (∀ j, j < w → v j = 0) → S v
  addc : ∀ v u, S v → S u → ∀ c : Int, S fun j => (v j + c * u j) % p
theorem Sp.space {p : Int} {w n : Nat} {f : Nat → Nat → Int} (hp : 0 < p) : Space p w (Sp p w n f) :=
  ⟨fun _ h => h.range hp, fun _ _ h e => h.ext e, fun v h => .zero v h, fun _ _ h h' c => h.addc hp h' c⟩
/-- a reduced list of a space: k rows, the first place of each, where it has 1 and the others 0 -/
structure Red (p : Int) (w : Nat) (S : (Nat → Int) → Prop) (k : Nat) (a : Nat → Nat → Int) (P : Nat → Nat) : Prop where
  mem : ∀ i, i < k → S (a i)
  lt : ∀ i, i < k → P i < w
  inc : ∀ i j, i < j → j < k → P i < P j
  one : ∀ i, i < k → a i (P i) = 1
  bef : ∀ i, i < k → ∀ j, j < P i → a i j = 0
  oth : ∀ i j, i < k → j < k → i ≠ j → a i (P j) = 0
  all : ∀ v, S v → (∀ i, i < k → v (P i) = 0) → ∀ j, j < w → v j = 0

/-- the rows taken off one by one -/
def strip (p : Int) (a : Nat → Nat → Int) (P : Nat → Nat) (v : Nat → Int) : Nat → Nat → Int
  | 0 => v
  | t + 1 => fun j => (strip p a P v t j + (-(strip p a P v t (P t))) * a t j) % p
theorem strip_in {p : Int} {w : Nat} {S : (Nat → Int) → Prop} (hS : Space p w S) {a : Nat → Nat → Int} {P : Nat → Nat} {v : Nat → Int} (hv : S v) : ∀ t, (∀ i, i < t → S (a i)) → S (strip p a P v t)
  | 0, _ => hv
  | t + 1, h => hS.addc _ _ (strip_in hS hv t fun i hi => h i (by omega)) (h t (by omega)) _

theorem Red.strip {p : Int} {w : Nat} {S : (Nat → Int) → Prop} (hp : 1 < p) (hS : Space p w S) {k : Nat} {a : Nat → Nat → Int} {P : Nat → Nat} (h : Red p w S k a P) {v : Nat → Int} (hv : S v) : ∀ t, t ≤ k →
    (∀ i, i < k → t ≤ i → M.strip p a P v t (P i) = v (P i)) ∧ (∀ i, i < t → M.strip p a P v t (P i) = 0)
  | 0, _ => ⟨fun _ _ _ => rfl, fun i hi => absurd hi (Nat.not_lt_zero _)⟩
  | t + 1, ht => by
    obtain ⟨h1, h2⟩ := h.strip hp hS hv t (by omega)
    have hs := strip_in hS hv (P := P) t fun i hi => h.mem i (by omega)
    have hr := fun i (hi : i < k) => hS.range _ hs (P i) (h.lt i hi)
    refine ⟨fun i hi hti => ?_, fun i hi => ?_⟩
    · show (M.strip p a P v t (P i) + (-(M.strip p a P v t (P t))) * a t (P i)) % p = _
      rw [h.oth t i (by omega) hi (by omega), Int.mul_zero, Int.add_zero, mod_id (hr i hi)]
      exact h1 i hi (by omega)
    · show (M.strip p a P v t (P i) + (-(M.strip p a P v t (P t))) * a t (P i)) % p = _
      by_cases hit : i = t
      · subst hit
        rw [h.one i (by omega), Int.mul_one, Int.add_right_neg, Int.zero_emod]
      · rw [h.oth t i (by omega) (by omega) (by omega), Int.mul_zero, Int.add_zero, h2 i (by omega), Int.zero_emod]
theorem Red.strip_at {p : Int} {w : Nat} {S : (Nat → Int) → Prop} (hp : 1 < p) (hS : Space p w S) {k : Nat} {a : Nat → Nat → Int} {P : Nat → Nat} (h : Red p w S k a P) {v : Nat → Int} (hv : S v) {q : Nat} (hq : q < w) (hb : ∀ j, j < q → v j = 0) (hne : ∀ i, i < k → P i ≠ q) :
    ∀ t, t ≤ k → M.strip p a P v t q = v q
  | 0, _ => rfl
  | t + 1, ht => by
    have ih := h.strip_at hp hS hv hq hb hne t (by omega)
    have h1 := (h.strip hp hS hv t (by omega)).1 t (by omega) (Nat.le_refl _)
    show (M.strip p a P v t q + (-(M.strip p a P v t (P t))) * a t q) % p = _
    rw [ih, h1]
    have hr := mod_id (hS.range v hv q hq)
    rcases Nat.lt_or_ge (P t) q with g | g
    · rw [hb _ g, Int.neg_zero, Int.zero_mul, Int.add_zero, hr]
    · rw [h.bef t (by omega) q (by have := hne t (by omega); omega), Int.mul_zero, Int.add_zero, hr]
/-- the first place of what is in the space is one of the list -/
theorem Red.lead {p : Int} {w : Nat} {S : (Nat → Int) → Prop} (hp : 1 < p) (hS : Space p w S) {k : Nat} {a : Nat → Nat → Int} {P : Nat → Nat} (h : Red p w S k a P) {v : Nat → Int} (hv : S v) {q : Nat} (hq : q < w) (hb : ∀ j, j < q → v j = 0) (h0 : v q ≠ 0) : ∃ i, i < k ∧ P i = q := by
  refine Classical.byContradiction fun hc => h0 ?_
  have hne : ∀ i, i < k → P i ≠ q := fun i hi e => hc ⟨i, hi, e⟩
  have hs := strip_in hS hv (P := P) k h.mem
  have := h.all _ hs (h.strip hp hS hv k (Nat.le_refl _)).2 q hq
  rwa [h.strip_at hp hS hv hq hb hne k (Nat.le_refl _)] at this

/-- two rising lists of the same numbers -/
theorem rise_same {k k' : Nat} {P P' : Nat → Nat} (h : ∀ i j, i < j → j < k → P i < P j) (h' : ∀ i j, i < j → j < k' → P' i < P' j) (g : ∀ i, i < k → ∃ j, j < k' ∧ P' j = P i) (g' : ∀ i, i < k' → ∃ j, j < k ∧ P j = P' i) :
    ∀ i, i < k → i < k' ∧ P i = P' i := by
  intro i
  induction i using Nat.strongRecOn with
  | _ i ih =>
    intro hi
    obtain ⟨a, ha, ea⟩ := g i hi
    have h1 : i ≤ a := by
      rcases Nat.lt_or_ge a i with l | l
      · obtain ⟨_, e⟩ := ih a l (by omega)
        have := h a i l hi
        omega
      · exact l
    have h2 : ¬ i < a := fun l => by
      obtain ⟨b, hb, eb⟩ := g' i (by omega)
      have := h' i a l ha
      rcases Nat.lt_or_ge b i with m | m
      · obtain ⟨_, e⟩ := ih b m hb
        have := h' b i m (by omega)
        omega
      · rcases Nat.eq_or_lt_of_le m with rfl | m
        · omega
        · have := h i b m hb; omega
    obtain rfl : a = i := by omega
    exact ⟨ha, ea.symm⟩

/-- a space has one reduced list -/
theorem Red.uniq {p : Int} {w : Nat} {S : (Nat → Int) → Prop} (hp : 1 < p) (hS : Space p w S) {k k' : Nat} {a a' : Nat → Nat → Int} {P P' : Nat → Nat} (h : Red p w S k a P) (h' : Red p w S k' a' P') : k = k' ∧ (∀ i, i < k → P i = P' i) ∧ ∀ i, i < k → ∀ j, j < w → a i j = a' i j := by
  have g : ∀ i, i < k → ∃ j, j < k' ∧ P' j = P i := fun i hi => h'.lead hp hS (h.mem i hi) (h.lt i hi) (h.bef i hi) (by rw [h.one i hi]; decide)
  have g' : ∀ i, i < k' → ∃ j, j < k ∧ P j = P' i := fun i hi => h.lead hp hS (h'.mem i hi) (h'.lt i hi) (h'.bef i hi) (by rw [h'.one i hi]; decide)
  have e := rise_same h.inc h'.inc g g'
  have e' := rise_same h'.inc h.inc g' g
  have hk : k = k' := by
    rcases Nat.lt_trichotomy k k' with l | l | l
    · have := (e' k l).1; omega
    · exact l
    · have := (e k' l).1; omega
  subst hk
  refine ⟨rfl, fun i hi => (e i hi).2, fun i hi j hj => ?_⟩
  have hd : S fun j => (a i j + (-1) * a' i j) % p := hS.addc _ _ (h.mem i hi) (h'.mem i hi) (-1)
  have hz := h.all _ hd (fun l hl => by
    show (a i (P l) + (-1) * a' i (P l)) % p = 0
    have el := (e l hl).2
    by_cases hil : i = l
    · subst hil
      rw [h.one i hi, el, h'.one i hi]; simp
    · rw [h.oth i l hi hl hil, el, h'.oth i l hi hl hil]; simp) j hj
  have hz : (a i j + (-1) * a' i j) % p = 0 := hz
  have r1 := hS.range _ (h.mem i hi) j hj
  have r2 := hS.range _ (h'.mem i hi) j hj
  have hdv := Int.dvd_of_emod_eq_zero hz
  obtain ⟨c, hc⟩ := hdv
  have : c = 0 := by
    rcases Int.lt_trichotomy c 0 with l | l | l
    · have : p * c ≤ p * (-1) := Int.mul_le_mul_of_nonneg_left (by omega) (by omega)
      omega
    · exact l
    · have : p * 1 ≤ p * c := Int.mul_le_mul_of_nonneg_left (by omega) (by omega)
      omega
  subst this
  omega

theorem Sp.congr {p : Int} {w n : Nat} {f f' : Nat → Nat → Int} (hp : 0 < p) (e : ∀ i, i < n → ∀ j, j < w → f i j = f' i j) (hr : ∀ i, i < n → ∀ j, j < w → 0 ≤ f i j ∧ f i j < p) {v : Nat → Int} : Sp p w n f v ↔ Sp p w n f' v :=
  ⟨fun h => h.sub hp fun i hi => (Sp.row hi fun j hj => by rw [← e i hi j hj]; exact hr i hi j hj).ext (e i hi), fun h => h.sub hp fun i hi => (Sp.row hi (hr i hi)).ext fun j hj => (e i hi j hj).symm⟩
theorem Red.of_iff {p : Int} {w : Nat} {S S' : (Nat → Int) → Prop} {k : Nat} {a : Nat → Nat → Int} {P : Nat → Nat} (h : Red p w S k a P) (e : ∀ v, S v ↔ S' v) : Red p w S' k a P :=
  ⟨fun i hi => (e _).1 (h.mem i hi), h.lt, h.inc, h.one, h.bef, h.oth, fun v hv => h.all v ((e v).2 hv)⟩

/-! ### rows made reduced, one place after the other -/
structure Gauss (p : Int) (w n : Nat) (f0 f : Nat → Nat → Int) (done place : Nat) (P : Nat → Nat) : Prop where
  rng : ∀ i, i < n → ∀ j, j < w → 0 ≤ f i j ∧ f i j < p
  fwd : ∀ i, i < n → Sp p w n f0 (f i)
  bwd : ∀ i, i < n → Sp p w n f (f0 i)
  dn : done ≤ n
  pw : place ≤ w
  lt : ∀ i, i < done → P i < place
  inc : ∀ i j, i < j → j < done → P i < P j
  one : ∀ i, i < done → f i (P i) = 1
  bef : ∀ i, i < done → ∀ j, j < P i → f i j = 0
  oth : ∀ l i, l < n → i < done → l ≠ i → f l (P i) = 0
  beh : ∀ l, done ≤ l → l < n → ∀ j, j < place → f l j = 0

theorem Gauss.start {p : Int} {w n : Nat} {f : Nat → Nat → Int} (h : ∀ i, i < n → ∀ j, j < w → 0 ≤ f i j ∧ f i j < p) : Gauss p w n f f 0 0 fun _ => 0 :=
  ⟨h, fun i hi => .row hi (h i hi), fun i hi => .row hi (h i hi), Nat.zero_le _, Nat.zero_le _, fun i hi => absurd hi (Nat.not_lt_zero _), fun _ j _ hj => absurd hj (Nat.not_lt_zero _), fun i hi => absurd hi (Nat.not_lt_zero _), fun i hi => absurd hi (Nat.not_lt_zero _), fun _ i _ hi => absurd hi (Nat.not_lt_zero _), fun _ _ _ j hj => absurd hj (Nat.not_lt_zero _)⟩

theorem Gauss.skip {p : Int} {w n : Nat} {f0 f : Nat → Nat → Int} {done place : Nat} {P : Nat → Nat} (h : Gauss p w n f0 f done place P) (hw : place < w) (hz : ∀ l, done ≤ l → l < n → f l place = 0) : Gauss p w n f0 f done (place + 1) P :=
  { h with
    pw := hw
    lt := fun i hi => by have := h.lt i hi; omega
    beh := fun l h1 h2 j hj => by
      by_cases hjp : j = place
      · subst hjp; exact hz l h1 h2
      · exact h.beh l h1 h2 j (by omega) }

/-- rows done and done + at change places; the first of them is divided; multiples of it are taken off the others -/
def swapR (f : Nat → Nat → Int) (a b : Nat) : Nat → Nat → Int := fun i => if i = a then f b else if i = b then f a else f i
def mulR (p y : Int) (f : Nat → Nat → Int) (a : Nat) : Nat → Nat → Int := fun i => if i = a then fun j => y * f a j % p else f i
def clearR (p : Int) (f : Nat → Nat → Int) (a place : Nat) : Nat → Nat → Int := fun i => if i ≠ a ∧ f i place ≠ 0 then fun j => (f i j + (p - f i place) * f a j) % p else f i

theorem Gauss.pivot {p : Int} {w n : Nat} {f0 f : Nat → Nat → Int} {done place b : Nat} {P : Nat → Nat} {y : Int} (hp : 1 < p) (h : Gauss p w n f0 f done place P) (hd : done < n) (hw : place < w) (hb : done ≤ b ∧ b < n) (hy : y * f b place % p = 1) :
    Gauss p w n f0 (clearR p (mulR p y (swapR f done b) done) done place) (done + 1) (place + 1) (fun i => if i = done then place else P i) := by
  -- the three steps
  have hp0 : 0 < p := by omega
  let g := swapR f done b
  have g_in : ∀ i, i < n → ∃ l, l < n ∧ g i = f l ∧ (i < done → l = i) ∧ (done ≤ i → done ≤ l) := fun i hi => by
    by_cases h1 : i = done
    · exact ⟨b, hb.2, by simp [g, swapR, h1], fun _ => by omega, fun _ => hb.1⟩
    · by_cases h2 : i = b
      · exact ⟨done, hd, by simp [g, swapR, h1, h2]; omega, fun _ => by omega, fun _ => Nat.le_refl _⟩
      · exact ⟨i, hi, by simp [g, swapR, h1, h2], fun _ => rfl, fun h => h⟩
  have f_in : ∀ i, i < n → ∃ l, l < n ∧ f i = g l := fun i hi => by
    by_cases h1 : i = done
    · by_cases hbd : b = done
      · exact ⟨done, hd, by simp [g, swapR, h1, hbd]⟩
      · exact ⟨b, hb.2, by simp [g, swapR, h1, hbd]⟩
    · by_cases h2 : i = b
      · exact ⟨done, hd, by simp [g, swapR, h2]⟩
      · exact ⟨i, hi, by simp [g, swapR, h1, h2]⟩
  have g_rng : ∀ i, i < n → ∀ j, j < w → 0 ≤ g i j ∧ g i j < p := fun i hi => by obtain ⟨l, hl, e, _⟩ := g_in i hi; rw [e]; exact h.rng l hl
  have gd : g done = f b := by simp [g, swapR]
  let m := mulR p y g done
  have m_ne : ∀ i, i ≠ done → m i = g i := fun i hi => by simp [m, mulR, hi]
  have m_d : ∀ j, m done j = y * f b j % p := fun j => by simp [m, mulR, gd]
  have m_rng : ∀ i, i < n → ∀ j, j < w → 0 ≤ m i j ∧ m i j < p := fun i hi j hj => by
    by_cases h1 : i = done
    · subst h1; rw [m_d]; exact mod_rng hp0 _
    · rw [m_ne i h1]; exact g_rng i hi j hj
  have m_one : m done place = 1 := by rw [m_d]; exact hy
  let c := clearR p m done place
  have c_d : c done = m done := by simp [c, clearR]
  have c_val : ∀ i, i < n → i ≠ done → ∀ j, j < w → c i j = (m i j + (if m i place ≠ 0 then p - m i place else 0) * m done j) % p := fun i hi hne j hj => by
    by_cases h2 : m i place ≠ 0
    · simp [c, clearR, hne, h2]
    · rw [if_neg h2, Int.zero_mul, Int.add_zero, mod_id (m_rng i hi j hj)]
      simp [c, clearR, hne, h2]
  have c_rng : ∀ i, i < n → ∀ j, j < w → 0 ≤ c i j ∧ c i j < p := fun i hi j hj => by
    by_cases h1 : i = done
    · subst h1; rw [c_d]; exact m_rng i hi j hj
    · rw [c_val i hi h1 j hj]; exact mod_rng hp0 _
  -- the rows before this place
  have m_bef : ∀ j, j < place → m done j = 0 := fun j hj => by rw [m_d, h.beh b hb.1 hb.2 j hj, Int.mul_zero, Int.zero_emod]
  have c_bef : ∀ i, i < n → ∀ j, j < place → c i j = g i j := fun i hi j hj => by
    have hjw : j < w := by have := h.pw; omega
    by_cases h1 : i = done
    · subst h1; rw [c_d, m_bef j hj, gd, h.beh b hb.1 hb.2 j hj]
    · rw [c_val i hi h1 j hjw, m_bef j hj, Int.mul_zero, Int.add_zero, mod_id (m_rng i hi j hjw), m_ne i h1]
  have c_pl : ∀ i, i < n → i ≠ done → c i place = 0 := fun i hi h1 => by
    rw [c_val i hi h1 place hw, m_one, Int.mul_one]
    by_cases h2 : m i place ≠ 0
    · rw [if_pos h2, show m i place + (p - m i place) = p by omega, Int.emod_self]
    · rw [if_neg h2, Int.add_zero]
      have : m i place = 0 := Classical.not_not.1 h2
      rw [this, Int.zero_emod]
  show Gauss p w n f0 c (done + 1) (place + 1) _
  refine ⟨c_rng, fun i hi => ?_, fun i hi => ?_, hd, hw, fun i hi => ?_, fun i j hij hj => ?_, fun i hi => ?_, fun i hi j hj => ?_, fun l i hl hi hli => ?_, fun l h1 h2 j hj => ?_⟩
  · -- what is made is in the space
    have gin : ∀ i, i < n → Sp p w n f0 (g i) := fun i hi => by obtain ⟨l, hl, e, _⟩ := g_in i hi; rw [e]; exact h.fwd l hl
    have md : Sp p w n f0 (m done) := ((Sp.zero (fun _ => 0) fun _ _ => rfl).addc hp0 (gin done hd) y).ext fun j hj => by rw [m_d, gd, Int.zero_add]
    by_cases h1 : i = done
    · subst h1; rw [c_d]; exact md
    · refine ((gin i hi).addc hp0 md (if m i place ≠ 0 then p - m i place else 0)).ext fun j hj => ?_
      rw [c_val i hi h1 j hj, m_ne i h1]
  · -- and the other way
    have cd : Sp p w n c (m done) := by rw [← c_d]; exact .row hd (c_rng done hd)
    have cm : ∀ i, i < n → Sp p w n c (m i) := fun i hi => by
      by_cases h1 : i = done
      · subst h1; exact cd
      · refine ((Sp.row hi (c_rng i hi)).addc hp0 cd (-(if m i place ≠ 0 then p - m i place else 0))).ext fun j hj => ?_
        rw [c_val i hi h1 j hj, mod_l, show m i j + (if m i place ≠ 0 then p - m i place else 0) * m done j + -(if m i place ≠ 0 then p - m i place else 0) * m done j = m i j by grind, mod_id (m_rng i hi j hj)]
    have cg : ∀ i, i < n → Sp p w n c (g i) := fun i hi => by
      by_cases h1 : i = done
      · subst h1
        refine ((Sp.zero (fun _ => 0) fun _ _ => rfl).addc hp0 (cm i hi) (f b place)).ext fun j hj => ?_
        rw [m_d, Int.zero_add]
        have e := mod_in p 0 (y * f b j) (f b place)
        rw [Int.zero_add, Int.zero_add] at e
        rw [e, gd, show f b place * (y * f b j) = (y * f b place) * f b j by grind]
        have e2 := mod_in p 0 (y * f b place) (f b j)
        rw [Int.zero_add, Int.zero_add, hy, Int.mul_one, Int.mul_comm] at e2
        rw [← e2, mod_id (h.rng b hb.2 j hj)]
      · rw [← m_ne i h1]; exact cm i hi
    refine (h.bwd i hi).sub hp0 fun l hl => ?_
    obtain ⟨l', hl', e⟩ := f_in l hl
    rw [e]
    exact cg l' hl'
  · by_cases h1 : i = done
    · simp [h1]
    · rw [if_neg h1]; have := h.lt i (by omega); omega
  · rw [if_neg (show i ≠ done by omega)]
    by_cases h1 : j = done
    · rw [if_pos h1]; exact h.lt i (by omega)
    · rw [if_neg h1]; exact h.inc i j hij (by omega)
  · by_cases h1 : i = done
    · subst h1; rw [if_pos rfl, c_d]; exact m_one
    · rw [if_neg h1]
      have hi' : i < done := by omega
      obtain ⟨l, hl, e, e1, _⟩ := g_in i (by omega)
      rw [c_bef i (by omega) _ (h.lt i hi'), e, e1 hi']
      exact h.one i hi'
  · by_cases h1 : i = done
    · subst h1
      rw [if_pos rfl] at hj
      rw [c_bef i hd j hj, gd]
      exact h.beh b hb.1 hb.2 j hj
    · rw [if_neg h1] at hj
      have hi' : i < done := by omega
      obtain ⟨l, hl, e, e1, _⟩ := g_in i (by omega)
      rw [c_bef i (by omega) j (by have := h.lt i hi'; omega), e, e1 hi']
      exact h.bef i hi' j hj
  · by_cases h1 : i = done
    · subst h1
      rw [if_pos rfl]
      exact c_pl l hl hli
    · rw [if_neg h1]
      have hi' : i < done := by omega
      obtain ⟨q, hq, e, e1, e2⟩ := g_in l hl
      rw [c_bef l hl _ (h.lt i hi'), e]
      refine h.oth q i hq hi' fun hqi => ?_
      rcases Nat.lt_or_ge l done with hl' | hl'
      · have := e1 hl'; omega
      · have := e2 hl'; omega
  · by_cases h3 : j = place
    · subst h3; exact c_pl l h2 (by omega)
    · obtain ⟨q, hq, e, _, e2⟩ := g_in l h2
      rw [c_bef l h2 j (by omega), e]
      exact h.beh q (e2 (by omega)) hq j (by omega)

theorem Gauss.ext {p : Int} {w n : Nat} {f0 f f' : Nat → Nat → Int} {done place : Nat} {P : Nat → Nat} (hp : 1 < p) (h : Gauss p w n f0 f done place P) (e : ∀ i, i < n → ∀ j, j < w → f' i j = f i j) : Gauss p w n f0 f' done place P := by
  have hp0 : 0 < p := by omega
  have rng : ∀ i, i < n → ∀ j, j < w → 0 ≤ f' i j ∧ f' i j < p := fun i hi j hj => by rw [e i hi j hj]; exact h.rng i hi j hj
  have hpw := h.pw
  have hdn := h.dn
  refine ⟨rng, fun i hi => (h.fwd i hi).ext (e i hi), fun i hi => (h.bwd i hi).sub hp0 fun l hl => (Sp.row hl (rng l hl)).ext fun j hj => (e l hl j hj).symm, h.dn, h.pw, h.lt, h.inc, fun i hi => ?_, fun i hi j hj => ?_, fun l i hl hi hli => ?_, fun l h1 h2 j hj => ?_⟩
  · rw [e i (by omega) _ (by have := h.lt i hi; omega)]; exact h.one i hi
  · rw [e i (by omega) _ (by have := h.lt i hi; omega)]; exact h.bef i hi j hj
  · rw [e l hl _ (by have := h.lt i hi; omega)]; exact h.oth l i hl hi hli
  · rw [e l h2 _ (by omega)]; exact h.beh l h1 h2 j hj

/-- when all rows, or all places, are through: a reduced list -/
theorem Gauss.red {p : Int} {w n : Nat} {f0 f : Nat → Nat → Int} {done place : Nat} {P : Nat → Nat} (hp : 1 < p) (h : Gauss p w n f0 f done place P) (hend : done = n ∨ place = w) : Red p w (Sp p w n f0) done f P := by
  have hp0 : 0 < p := by omega
  have hz : ∀ l, done ≤ l → l < n → ∀ j, j < w → f l j = 0 := fun l h1 h2 j hj => by
    rcases hend with rfl | rfl
    · omega
    · exact h.beh l h1 h2 j hj
  have hS : Space p w (Sp p w n f0) := Sp.space hp0
  refine ⟨fun i hi => h.fwd i (by have := h.dn; omega), fun i hi => by have := h.lt i hi; have := h.pw; omega, h.inc, h.one, h.bef, fun i j hi hj hij => h.oth i j (by have := h.dn; omega) hj hij, fun v hv h0 => ?_⟩
  -- what is told by the rows is told by its numbers at their places
  have key : ∀ v, Sp p w n f v → ∀ j, j < w → M.strip p f P v done j = 0 := by
    have fixd : ∀ v, (∀ j, j < w → v j = 0) → ∀ t, t ≤ done → ∀ j, j < w → M.strip p f P v t j = 0 := fun v hv t => by
      induction t with
      | zero => intro _ j hj; exact hv j hj
      | succ t ih =>
        intro ht j hj
        show (M.strip p f P v t j + (-(M.strip p f P v t (P t))) * f t j) % p = 0
        rw [ih (by omega) j hj, ih (by omega) (P t) (by have := h.lt t (by omega); have := h.pw; omega)]
        simp
    have lin : ∀ (v u : Nat → Int) (c : Int) (i : Nat), i < n → (∀ j, j < w → u j = (v j + c * f i j) % p) → ∀ t, t ≤ done → ∀ j, j < w → M.strip p f P u t j = (M.strip p f P v t j + (if i < t then 0 else c) * f i j) % p := fun v u c i hi hu t => by
      induction t with
      | zero => intro _ j hj; rw [if_neg (Nat.not_lt_zero _)]; exact hu j hj
      | succ t ih =>
        intro ht j hj
        have hpt : P t < w := by have := h.lt t (by omega); have := h.pw; omega
        show (M.strip p f P u t j + (-(M.strip p f P u t (P t))) * f t j) % p = ((M.strip p f P v t j + (-(M.strip p f P v t (P t))) * f t j) % p + (if i < t + 1 then 0 else c) * f i j) % p
        have e1 := ih (by omega) j hj
        have e2 := ih (by omega) (P t) hpt
        rw [e1, e2, mod_l, mod_l]
        have e3 : (-((M.strip p f P v t (P t) + (if i < t then 0 else c) * f i (P t)) % p)) * f t j = (- f t j) * ((M.strip p f P v t (P t) + (if i < t then 0 else c) * f i (P t)) % p) := by grind
        rw [e3, mod_in]
        by_cases hit : i = t
        · subst hit
          rw [if_neg (Nat.lt_irrefl _), if_pos (Nat.lt_succ_self _), h.one i (by omega)]
          congr 1
          grind
        · rw [h.oth i t hi (by omega) hit]
          by_cases hlt : i < t
          · rw [if_pos hlt, if_pos (by omega)]; congr 1; grind
          · rw [if_neg hlt, if_neg (by omega)]; congr 1; grind
    intro v hv
    induction hv with
    | zero v h0 => exact fixd v h0 done (Nat.le_refl _)
    | add v u c i hi hv hu ih =>
      intro j hj
      rw [lin v u c i hi hu done (Nat.le_refl _) j hj, ih j hj]
      by_cases hid : i < done
      · rw [if_pos hid]; simp
      · rw [if_neg hid, hz i (by omega) hi j hj]; simp
  have still : ∀ t, t ≤ done → ∀ j, j < w → M.strip p f P v t j = v j := fun t => by
    induction t with
    | zero => intro _ j hj; rfl
    | succ t ih =>
      intro ht j hj
      show (M.strip p f P v t j + (-(M.strip p f P v t (P t))) * f t j) % p = v j
      rw [ih (by omega) j hj, ih (by omega) (P t) (by have := h.lt t (by omega); have := h.pw; omega), h0 t (by omega), Int.neg_zero, Int.zero_mul, Int.add_zero, mod_id (hS.range v hv j hj)]
  intro j hj
  rw [← still done (Nat.le_refl _) j hj]
  exact key v (hv.sub hp0 h.bwd) j hj
end Go.Proofs.YtjanlnngeklhoabGreat.M

/- the functions of the primes return what the plain list of the primes up to 31 says -/
set_option linter.unusedVariables false
set_option linter.unusedSimpArgs false
namespace Go.Proofs.YtjanlnngeklhoabGreat
open Go.RowKit M

theorem ret_bool {a b : Bool} (h : a = b) : Ending.returned (.bool a) = .returned (.bool b) := by rw [h]

theorem l01In_any (n lo hi : Int) (w : World) :
    Calls Tryz.prog 54 #[.int .i64 n, .int .i64 lo, .int .i64 hi] w fun e w' => e = .returned (.bool (decide (lo ≤ n) && decide (n ≤ hi))) ∧ w = w' := by
  by_cases h1 : lo ≤ n
  · go_enter Tryz.func54, Tryz.ntmps54
    go_wp2
    go_ret
    exact ⟨ret_bool (by simp [h1]), rfl⟩
  · go_enter Tryz.func54, Tryz.ntmps54
    go_wp2
    go_ret
    exact ⟨ret_bool (by simp; omega), rfl⟩

/-- impl.IsPrime outside the range -/
theorem implPrime_out (p : Int) (h : p < 2 ∨ 31 < p) (w : World) :
    Calls Tryz.prog 109 #[.int .i64 p] w fun e w' => e = .returned (.bool (primeB p)) ∧ w = w' := by
  rw [primeB_out h]
  rcases h with h | h
  · go_enter Tryz.func109, Tryz.ntmps109
    go_wp2
    go_ret
    exact ⟨rfl, rfl⟩
  · have h2 : ¬ p < 2 := by omega
    go_enter Tryz.func109, Tryz.ntmps109
    go_wp2
    go_ret
    exact ⟨rfl, rfl⟩

theorem implPrime_in (p : Int) (h2 : 2 ≤ p) (h31 : p ≤ 31) (w : World) :
    Calls Tryz.prog 109 #[.int .i64 p] w fun e w' => e = .returned (.bool (primeB p)) ∧ w = w' := by
  have h2' : ¬ p < 2 := by omega
  go_enter Tryz.func109, Tryz.ntmps109
  go_wp2
  go_loop [3] (fun t => ∃ d : Int, 2 ≤ d ∧ d ≤ 6 ∧ (∀ e : Int, 2 ≤ e → e < d → p % e ≠ 0) ∧ t = .int .i64 d) (fun t => (100 - intOf t).toNat)
  case atStart => exact ⟨2, by omega, by omega, fun e h h' => by omega, rfl⟩
  case round =>
    obtain ⟨d, hd, hd6, hdiv, rfl⟩ := hrel
    have H := Lib.hid hdiv
    clear hdiv
    have hw : wrap64 (d * d) = d * d := by
      have : d * d ≤ 6 * 6 := Int.mul_le_mul hd6 hd6 (by omega) (by omega)
      have : 0 ≤ d * d := Int.mul_nonneg (by omega) (by omega)
      exact IntWalk.wrap64_in _ (by omega)
    by_cases hsq : d * d ≤ p
    · have hsq' : wrap64 (d * d) ≤ p := by rw [hw]; exact hsq
      have hlt := div_lt hd hsq
      have h5 := sq_le_six h31 hd hsq
      have HW := Lib.hid hw
      clear hw hsq
      by_cases hz : (p % d == 0) = true
      · have hres := primeB_div h2 h31 hd hlt (by simpa using hz)
        have HR := Lib.hid hres
        clear hres
        go_wp2
        go_ret
        exact ⟨ret_bool HR.out.symm, rfl⟩
      · have hz' : (p % d == 0) = false := by simpa using hz
        have HZ : p % d ≠ 0 := by simpa using hz
        have HH := Lib.hid HZ
        clear hz HZ
        go_wp2
        go_round
        case rel => exact ⟨d + 1, by omega, by omega, fun e he hl => by
          by_cases hed : e = d
          · subst hed; exact HH.out
          · exact H.out e he (by omega), rfl⟩
        case measure => simp [intOf]; omega
    · have hsq' : p < wrap64 (d * d) := by rw [hw]; omega
      have hres := primeB_sq h2 h31 hd hd6 (by omega) H.out
      have HR := Lib.hid hres
      clear hres hw hsq
      go_wp2
      go_ret
      exact ⟨ret_bool HR.out.symm, rfl⟩

theorem implPrime_any (p : Int) (w : World) :
    Calls Tryz.prog 109 #[.int .i64 p] w fun e w' => e = .returned (.bool (primeB p)) ∧ w = w' := by
  by_cases h : p < 2 ∨ 31 < p
  · exact implPrime_out p h w
  · exact implPrime_in p (by omega) (by omega) w

/-- the model's loop -/
theorem specPrime_any (p : Int) (w : World) :
    Calls Tryz.prog 110 #[.int .i64 p] w fun e w' => e = .returned (.bool (primeB p)) ∧ w = w' := by
  go_enter Tryz.func110, Tryz.ntmps110
  go_wp2
  go_loop [3] (fun t => ∃ d : Int, 2 ≤ d ∧ d ≤ 32 ∧ (2 ≤ p → d ≤ p) ∧ (∀ e : Int, 2 ≤ e → e < d → p % e ≠ 0) ∧ t = .int .i64 d) (fun t => (100 - intOf t).toNat)
  case atStart => exact ⟨2, by omega, by omega, by omega, fun e h h' => by omega, rfl⟩
  case round =>
    obtain ⟨d, hd, hd32, hdp, hdiv, rfl⟩ := hrel
    have H := Lib.hid hdiv
    have HP := Lib.hid hdp
    clear hdiv hdp
    by_cases h1 : d < p
    · by_cases h3 : d ≤ 31
      · by_cases hz : (p % d == 0) = true
        · have hres : primeB p = false := by
            by_cases h31 : p ≤ 31
            · exact primeB_div (by omega) h31 hd h1 (by simpa using hz)
            · exact primeB_out (by omega)
          have HR := Lib.hid hres
          clear hres
          go_wp2
          go_ret
          exact ⟨ret_bool HR.out.symm, rfl⟩
        · have hz' : (p % d == 0) = false := by simpa using hz
          have HZ : p % d ≠ 0 := by simpa using hz
          have HH := Lib.hid HZ
          clear hz HZ
          go_wp2
          go_round
          case rel => exact ⟨d + 1, by omega, by omega, by omega, fun e he hl => by
            by_cases hed : e = d
            · subst hed; exact HH.out
            · exact H.out e he (by omega), rfl⟩
          case measure => simp [intOf]; omega
      · have h3' : ¬ d ≤ 31 := h3
        have hres := primeB_out (p := p) (by omega)
        have HR := Lib.hid hres
        clear hres
        go_wp2_with (go_at_call 54; refine (l01In_any _ _ _ _).mono ?_; rintro e w' ⟨rfl, rfl⟩)
        go_ret
        exact ⟨ret_bool (by rw [HR.out]; simp; omega), rfl⟩
    · have hres : primeB p = (decide (2 ≤ p) && decide (p ≤ 31)) := by
        by_cases h2 : 2 ≤ p
        · have hdp2 := HP.out h2
          obtain rfl : d = p := by omega
          by_cases h31 : d ≤ 31
          · rw [primeB_all h2 h31 H.out]; simp [h2, h31]
          · rw [primeB_out (by omega)]; simp [h31]
        · rw [primeB_out (by omega)]; simp [h2]
      have HR := Lib.hid hres
      clear hres
      go_wp2_with (go_at_call 54; refine (l01In_any _ _ _ _).mono ?_; rintro e w' ⟨rfl, rfl⟩)
      go_ret
      exact ⟨ret_bool HR.out.symm, rfl⟩

end Go.Proofs.YtjanlnngeklhoabGreat

/- Vectors: the law's copies, and both checks of a vector. -/
set_option linter.unusedVariables false
set_option linter.unusedSimpArgs false
set_option maxRecDepth 100000
namespace Go.Proofs.YtjanlnngeklhoabGreat
open M

theorem wrapI {x : Int} (h : -9223372036854775808 ≤ x ∧ x ≤ 9223372036854775807) : IntKind.i64.wrap x = x := by
  rw [IntWalk.i64_left]; exact IntWalk.wrap64_in x h
theorem slotI {x y : Int} (h : x = y) : SV.eqv (.int .i64 x) (.int .i64 y) := congrArg (SV.int .i64) h
theorem wrapS {i : Nat} (h : i < 1000000000) : IntKind.i64.wrap ((i : Int) + 1) = ((i + 1 : Nat) : Int) := by
  rw [wrapI (by omega)]; rfl
theorem rowEq {k : IntKind} {n : Nat} {v u : Nat → Int} (h : ∀ j, j < n → v j = u j) : SV.eqv (.ints k n v) (.ints k n u) := ⟨⟨rfl, rfl⟩, h⟩

theorem toVector_s (v : Nat → Int) : Spec Tryz.prog 13 [.ints .u8 8 v] [] (Ret (.ints .u8 8 v)) := by
  refine Spec.ret rfl (Spec.of_vc tabOK tabEq Tryz.func13 rfl (by kernel_rfl) rfl rfl ?_)
  refine LoopVC.of (fun i : Nat => i ≤ 8) (fun i => [(1, .ptr 0 [] 0 0), (2, .ptr 1 [] 0 0), (3, .ptr 2 [] 0 0), (4, .int .i64 i)])
    (fun i => [some (.ints .u8 8 v, 8), some (.ints .u8 8 fun _ => 0, 8), some (.ints .u8 8 fun j => if j < i then v j else 0, 8)]) (fun i => 8 - i) 0 (by omega) ?_ ?_ ?_
  · exact And.intro rfl (And.intro rfl (And.intro rfl (And.intro rfl trivial)))
  · exact And.intro (And.intro (rowEq fun _ _ => rfl) rfl) (And.intro (And.intro (rowEq fun _ _ => rfl) rfl) (And.intro (And.intro (rowEq fun _ _ => rfl) rfl) trivial))
  · intro i hi
    refine ifVC_split (fun h => ?_) (fun h => ?_)
    · have hlt := of_decide_eq_true h
      refine And.intro ⟨by omega, by omega⟩ ?_
      refine And.intro (by omega) ?_
      refine And.intro ⟨by omega, by omega⟩ ?_
      refine And.intro (by omega) ?_
      refine Exists.intro (i + 1) (And.intro (by omega) (And.intro (by omega) (And.intro (And.intro rfl (And.intro rfl (And.intro rfl (And.intro (slotI (wrapS (by omega))) trivial)))) ?_)))
      refine And.intro (And.intro (rowEq fun _ _ => rfl) rfl) (And.intro (And.intro (rowEq fun _ _ => rfl) rfl) (And.intro (And.intro (rowEq fun j hj => ?_) rfl) trivial))
      show upd1 _ _ _ j = if j < i + 1 then v j else 0
      unfold upd1
      rw [show ((i : Int).toNat * 1 + 0) = i by omega]
      by_cases h1 : j = i
      · subst h1; simp
      · by_cases h2 : j < i
        · rw [if_neg h1]; show (if j < i then v j else 0) = _; rw [if_pos h2, if_pos (by omega)]
        · rw [if_neg h1]; show (if j < i then v j else 0) = _; rw [if_neg h2, if_neg (by omega)]
    · have hge := of_decide_eq_false h
      obtain rfl : i = 8 := by omega
      refine And.intro (by omega) ?_
      refine And.intro (by omega) ?_
      refine And.intro (by omega) ?_
      refine rowEq fun j hj => ?_
      show updR _ 0 8 _ j = v j
      simp [updR, hj]
def isU8 (n : Nat) (v : Nat → Int) : Prop := ∀ i, i < n → 0 ≤ v i ∧ v i < 256
/-- there are vectors for p and n -/
def fieldB (p n : Int) : Bool := primeB p && (decide (1 ≤ n) && decide (n ≤ 8))
/-- the entry i of a vector for p and n -/
def entryB (p n : Int) (v : Nat → Int) (i : Nat) : Bool := decide (v i < p) && (decide ((i : Int) < n) || v i == 0)
def entriesB (p n : Int) (v : Nat → Int) : Bool := (List.range 8).all (entryB p n v)
def vectorB (p n : Int) (v : Nat → Int) : Bool := fieldB p n && entriesB p n v

theorem entriesB_no {p n : Int} {v : Nat → Int} {i : Nat} (hi : i < 8) (h : entryB p n v i = false) : entriesB p n v = false := by
  cases hb : entriesB p n v with
  | false => rfl
  | true =>
    have := List.all_eq_true.1 hb i (List.mem_range.2 hi)
    rw [h] at this; cases this
theorem entriesB_yes {p n : Int} {v : Nat → Int} (h : ∀ i, i < 8 → entryB p n v i = true) : entriesB p n v = true := List.all_eq_true.2 fun i hi => h i (List.mem_range.1 hi)
theorem boolEq {a b : Bool} (h : a = b) : SV.eqv (.bool a) (.bool b) := congrArg SV.bool h

theorem implIsPrime_s (p : Int) : Spec Tryz.prog 109 [.int .i64 p] [] (Ret (.bool (primeB p))) :=
  Spec.of_same Tryz.func109 rfl (by kernel_rfl) rfl fun μ w => implPrime_any p w
theorem l01Prime_s (p : Int) : Spec Tryz.prog 110 [.int .i64 p] [] (Ret (.bool (primeB p))) :=
  Spec.of_same Tryz.func110 rfl (by kernel_rfl) rfl fun μ w => specPrime_any p w
theorem l01In_s (n lo hi : Int) : Spec Tryz.prog 54 [.int .i64 n, .int .i64 lo, .int .i64 hi] [] (Ret (.bool (decide (lo ≤ n) && decide (n ≤ hi)))) :=
  Spec.of_same Tryz.func54 rfl (by kernel_rfl) rfl fun μ w => l01In_any n lo hi w

theorem isField_s (p n : Int) : Spec Tryz.prog 91 [.int .i64 p, .int .i64 n] [] (Ret (.bool (fieldB p n))) := by
  refine Spec.ret rfl (Spec.of_vc tabOK tabEq Tryz.func91 rfl (by kernel_rfl) rfl rfl ?_)
  refine And.intro trivial (Spec.mono (implIsPrime_s p) ?_)
  rintro r m ⟨rfl, rfl⟩
  refine ifVC_split (fun hp => ?_) (fun hp => ?_)
  · refine ifVC_split (fun h1 => ?_) (fun h1 => ?_)
    · exact boolEq (by have := of_decide_eq_true h1; simp only [fieldB, hp, Bool.true_and]; simp; intro _; omega)
    · exact boolEq (by have := of_decide_eq_false h1; simp only [fieldB, hp, Bool.true_and]; simp; intro; omega)
  · exact boolEq (by simp [fieldB, hp])

theorem l01Sizes_s (p n : Int) : Spec Tryz.prog 93 [.int .i64 p, .int .i64 n] [] (Ret (.bool (fieldB p n))) := by
  refine Spec.ret rfl (Spec.of_vc tabOK tabEq Tryz.func93 rfl (by kernel_rfl) rfl rfl ?_)
  refine And.intro trivial (Spec.mono (l01Prime_s p) ?_)
  rintro r m ⟨rfl, rfl⟩
  refine ifVC_split (fun hp => ?_) (fun hp => ?_)
  · refine And.intro trivial (Spec.mono (l01In_s n 1 8) ?_)
    rintro r m ⟨rfl, rfl⟩
    exact boolEq (by simp [fieldB, hp])
  · exact boolEq (by simp [fieldB, hp])

theorem implIsVector_s (p n : Int) (v : Nat → Int) (hv : isU8 8 v) : Spec Tryz.prog 68 [.int .i64 p, .int .i64 n, .ints .u8 8 v] [] (Ret (.bool (vectorB p n v))) := by
  refine Spec.ret rfl (Spec.of_vc tabOK tabEq Tryz.func68 rfl (by kernel_rfl) rfl rfl ?_)
  refine And.intro trivial (Spec.mono (isField_s p n) ?_)
  rintro r m ⟨rfl, rfl⟩
  refine ifVC_split (fun hf => ?_) (fun hf => ?_)
  · exact boolEq (by unfold vectorB; rw [show fieldB p n = false by simpa using hf]; rfl)
  have hf : fieldB p n = true := by simpa using hf
  refine And.intro (by omega) ?_
  refine LoopVC.of (fun i : Nat => i ≤ 8 ∧ ∀ j, j < i → entryB p n v j = true) (fun i => [(0, .int .i64 p), (1, .int .i64 n), (13, .ints .u8 8 v), (14, .int .i64 i)]) (fun _ => [none]) (fun i => 8 - i) 0 ⟨by omega, fun j hj => by omega⟩ ?_ ?_ ?_
  · exact And.intro rfl (And.intro rfl (And.intro (rowEq fun _ _ => rfl) (And.intro rfl trivial)))
  · exact trivial
  · rintro i ⟨hi, hall⟩
    refine ifVC_split (fun h => ?_) (fun h => ?_)
    · have hlt := of_decide_eq_true h
      refine And.intro ⟨by omega, by omega⟩ ?_
      have hvi := hv i (by omega)
      have hw : IntKind.i64.wrap (v ((i : Int).toNat)) = v i := by rw [Int.toNat_natCast]; exact wrapI (by omega)
      have next : entryB p n v i = true → ∃ x', (x' ≤ 8 ∧ ∀ j, j < x' → entryB p n v j = true) ∧ 8 - x' < 8 - i ∧ x' = i + 1 := fun he => ⟨i + 1, ⟨by omega, fun j hj => by
        by_cases hji : j = i
        · subst hji; exact he
        · exact hall j (by omega)⟩, by omega, rfl⟩
      have step : ∀ (s : Slots) (m : Mem), entryB p n v i = true → eqvO (lk s 0) (.int .i64 p) → eqvO (lk s 1) (.int .i64 n) → eqvO (lk s 13) (.ints .u8 8 v) → eqvO (lk s 14) (.int .i64 (IntKind.i64.wrap ((i : Int) + 1))) → memCut m [none] →
          ∃ x' : Nat, (x' ≤ 8 ∧ ∀ j, j < x' → entryB p n v j = true) ∧ 8 - x' < 8 - i ∧ subL [(0, .int .i64 p), (1, .int .i64 n), (13, .ints .u8 8 v), (14, .int .i64 x')] s ∧ memCut m [none] := fun s m he h0 h1 h13 h14 hm => by
        obtain ⟨x', g1, g2, rfl⟩ := next he
        exact ⟨i + 1, g1, g2, ⟨h0, h1, h13, by rw [wrapS (by omega)] at h14; exact h14, trivial⟩, hm⟩
      refine ifVC_split (fun ha => ?_) (fun ha => ?_)
      · have ha := of_decide_eq_true ha
        rw [hw] at ha
        exact boolEq (by rw [vectorB, entriesB_no (i := i) (by omega) (by simp [entryB]; intro; omega)]; simp)
      · have ha := of_decide_eq_false ha
        rw [hw] at ha
        refine ifVC_split (fun hb => ?_) (fun hb => ?_)
        · have hb := of_decide_eq_true hb
          refine ifVC_split (fun hc => ?_) (fun hc => ?_)
          · have hc : v i ≠ 0 := by simpa using hc
            exact boolEq (by rw [vectorB, entriesB_no (i := i) (by omega) (by simp [entryB, hc]; omega)]; simp)
          · have hc : v i = 0 := by simpa using hc
            exact step _ _ (by simp [entryB, hc]; omega) rfl rfl (rowEq fun _ _ => rfl) rfl trivial
        · have hb := of_decide_eq_false hb
          exact step _ _ (by simp [entryB]; omega) rfl rfl (rowEq fun _ _ => rfl) rfl trivial
    · have hge := of_decide_eq_false h
      obtain rfl : i = 8 := by omega
      exact boolEq (by rw [vectorB, hf, entriesB_yes hall]; rfl)
theorem l01Vector_s (p n : Int) (v : Nat → Int) (hv : isU8 8 v) : Spec Tryz.prog 43 [.int .i64 p, .int .i64 n, .ints .u8 8 v] [] (Ret (.bool (entriesB p n v))) := by
  refine Spec.ret rfl (Spec.of_vc tabOK tabEq Tryz.func43 rfl (by kernel_rfl) rfl rfl ?_)
  refine LoopVC.of (fun i : Nat => i ≤ 8 ∧ ∀ j, j < i → entryB p n v j = true) (fun i => [(0, .int .i64 p), (1, .int .i64 n), (5, .ptr 0 [] 0 0), (7, .int .i64 i)]) (fun _ => [some (.ints .u8 8 v, 8)]) (fun i => 8 - i) 0 ⟨by omega, fun j hj => by omega⟩ ?_ ?_ ?_
  · exact And.intro rfl (And.intro rfl (And.intro rfl (And.intro rfl trivial)))
  · exact And.intro (And.intro (rowEq fun _ _ => rfl) rfl) trivial
  · rintro i ⟨hi, hall⟩
    refine ifVC_split (fun h => ?_) (fun h => ?_)
    · have hlt := of_decide_eq_true h
      refine And.intro ⟨by omega, by omega⟩ ?_
      refine And.intro (by omega) ?_
      have hvi := hv i (by omega)
      have hw : IntKind.i64.wrap (v ((i : Int).toNat * 1 + 0)) = v i := by rw [show (i : Int).toNat * 1 + 0 = i by omega]; exact wrapI (by omega)
      have step : ∀ (s : Slots) (m : Mem), entryB p n v i = true → eqvO (lk s 0) (.int .i64 p) → eqvO (lk s 1) (.int .i64 n) → eqvO (lk s 5) (.ptr 0 [] 0 0) → eqvO (lk s 7) (.int .i64 (IntKind.i64.wrap ((i : Int) + 1))) → memCut m [some (.ints .u8 8 v, 8)] →
          ∃ x' : Nat, (x' ≤ 8 ∧ ∀ j, j < x' → entryB p n v j = true) ∧ 8 - x' < 8 - i ∧ subL [(0, .int .i64 p), (1, .int .i64 n), (5, .ptr 0 [] 0 0), (7, .int .i64 x')] s ∧ memCut m [some (.ints .u8 8 v, 8)] := fun s m he h0 h1 h5 h7 hm =>
        ⟨i + 1, ⟨by omega, fun j hj => by
          by_cases hji : j = i
          · subst hji; exact he
          · exact hall j (by omega)⟩, by omega, ⟨h0, h1, h5, by rw [wrapS (by omega)] at h7; exact h7, trivial⟩, hm⟩
      refine ifVC_split (fun ha => ?_) (fun ha => ?_)
      · have ha := of_decide_eq_true ha
        rw [hw] at ha
        exact boolEq (by rw [entriesB_no (i := i) (by omega) (by simp [entryB]; intro; omega)])
      · have ha := of_decide_eq_false ha
        rw [hw] at ha
        refine ifVC_split (fun hb => ?_) (fun hb => ?_)
        · have hb := of_decide_eq_true hb
          refine And.intro ⟨by omega, by omega⟩ ?_
          refine And.intro (by omega) ?_
          refine ifVC_split (fun hc => ?_) (fun hc => ?_)
          · have hc : v i ≠ 0 := by
              have hc : v ((i : Int).toNat * 1 + 0) ≠ 0 := by simpa using hc
              rw [show (i : Int).toNat * 1 + 0 = i by omega] at hc; exact hc
            exact boolEq (by rw [entriesB_no (i := i) (by omega) (by simp [entryB, hc]; omega)])
          · have hc : v i = 0 := by
              have hc : v ((i : Int).toNat * 1 + 0) = 0 := by simpa using hc
              rw [show (i : Int).toNat * 1 + 0 = i by omega] at hc; exact hc
            exact step _ _ (by simp [entryB, hc]; omega) rfl rfl rfl rfl (And.intro (And.intro (rowEq fun _ _ => rfl) rfl) trivial)
        · have hb := of_decide_eq_false hb
          exact step _ _ (by simp [entryB]; omega) rfl rfl rfl rfl (And.intro (And.intro (rowEq fun _ _ => rfl) rfl) trivial)
    · have hge := of_decide_eq_false h
      obtain rfl : i = 8 := by omega
      exact boolEq (by rw [entriesB_yes hall])

end Go.Proofs.YtjanlnngeklhoabGreat

/- Sums of vectors, linear maps on vectors, tables turned round: the program's own and the model's. -/
set_option linter.unusedVariables false
set_option linter.unusedSimpArgs false
set_option maxRecDepth 100000
namespace Go.Proofs.YtjanlnngeklhoabGreat
open M

theorem wrapB {x : Int} (h : 0 ≤ x ∧ x < 256) : IntKind.u8.wrap x = x := by simp [IntKind.wrap, IntKind.bits, IntKind.signed]; omega
theorem mulB {a b : Int} (ha : 0 ≤ a ∧ a < 256) (hb : 0 ≤ b ∧ b < 256) : 0 ≤ a * b ∧ a * b ≤ 65025 :=
  ⟨Int.mul_nonneg ha.1 hb.1, by have := Int.mul_le_mul (a := a) (b := b) (c := 255) (d := 255) (by omega) (by omega) hb.1 (by omega); omega⟩
theorem modB {p x : Int} (hp : 0 < p ∧ p < 256) : 0 ≤ x % p ∧ x % p < 256 := ⟨Int.emod_nonneg _ (by omega), by have := Int.emod_lt_of_pos x hp.1; omega⟩

/-- r and f times o, modulo p -/
def addM (p : Int) (r : Nat → Int) (f : Int) (o : Nat → Int) : Nat → Int := fun j => (r j + f * o j) % p
theorem modP {p x : Int} (hp : 0 < p ∧ p < 256) : 0 ≤ x % p ∧ x % p < p := ⟨Int.emod_nonneg _ (by omega), Int.emod_lt_of_pos x hp.1⟩
theorem addM_z {p : Int} (r o : Nat → Int) (f : Int) (j : Nat) (hr : 0 ≤ r j ∧ r j < p) (ho : o j = 0) : r j = addM p r f o j := by
  unfold addM; rw [ho, Int.mul_zero, Int.add_zero, Int.emod_eq_of_lt hr.1 hr.2]
theorem addM_val {p a f b : Int} (hp : 0 < p ∧ p < 256) (ha : 0 ≤ a ∧ a < 256) (hf : 0 ≤ f ∧ f < 256) (hb : 0 ≤ b ∧ b < 256) :
    IntKind.u8.wrap ((IntKind.i64.wrap (IntKind.i64.wrap a + IntKind.i64.wrap (f * IntKind.i64.wrap b))).tmod p) = (a + f * b) % p := by
  have h := mulB hf hb
  rw [wrapI (x := a) (by omega), wrapI (x := b) (by omega), wrapI (x := f * b) (by omega), wrapI (x := a + f * b) (by omega), Int.tmod_eq_emod_of_nonneg (by omega), wrapB (modB hp)]

theorem addToRow_s (p f : Int) (r o : Nat → Int) (hp : 0 < p ∧ p < 256) (hf : 0 ≤ f ∧ f < 256) (hr : ∀ j, j < 8 → 0 ≤ r j ∧ r j < p) (ho : isU8 8 o) :
    Spec Tryz.prog 65 [.int .i64 p, .sl 0 0 8 8, .int .i64 f, .sl 1 0 8 8] [some (.ints .u8 8 r, 8), some (.ints .u8 8 o, 8)]
      (fun v m => v = .tnil ∧ m = [some (.ints .u8 8 (addM p r f o), 8), some (.ints .u8 8 o, 8)]) := by
  refine Spec.eqv (Spec.of_vc tabOK tabEq Tryz.func65 rfl (by kernel_rfl) rfl rfl ?_)
  refine LoopVC.of (fun i : Nat => i ≤ 8) (fun i => [(0, .int .i64 p), (1, .sl 0 0 8 8), (2, .int .i64 f), (10, .sl 1 0 8 8), (11, .int .i64 8), (12, .int .i64 i)])
    (fun i => [some (.ints .u8 8 fun j => if j < i then addM p r f o j else r j, 8), some (.ints .u8 8 o, 8)]) (fun i => 8 - i) 0 (by omega) ?_ ?_ ?_
  · exact And.intro rfl (And.intro rfl (And.intro rfl (And.intro rfl (And.intro rfl (And.intro rfl trivial)))))
  · exact And.intro (And.intro (rowEq fun _ _ => rfl) rfl) (And.intro (And.intro (rowEq fun _ _ => rfl) rfl) trivial)
  · intro i hi
    refine ifVC_split (fun h => ?_) (fun h => ?_)
    · have hlt := of_decide_eq_true h
      (repeat (first | refine And.intro (by omega) ?_ | refine And.intro ⟨by omega, by omega⟩ ?_))
      refine ifVC_split (fun hz => ?_) (fun hz => ?_)
      · (repeat (first | refine And.intro (by omega) ?_ | refine And.intro ⟨by omega, by omega⟩ ?_))
        refine Exists.intro (i + 1) (And.intro (by omega) (And.intro (by omega) (And.intro (And.intro rfl (And.intro rfl (And.intro rfl (And.intro rfl (And.intro rfl (And.intro (slotI (wrapS (by omega))) trivial)))))) ?_)))
        refine And.intro (And.intro (rowEq fun j hj => ?_) rfl) (And.intro (And.intro (rowEq fun _ _ => rfl) rfl) trivial)
        show upd1 _ _ _ j = if j < i + 1 then addM p r f o j else r j
        unfold upd1
        rw [show ((i : Int).toNat * 1 + 0) = i by omega]
        dsimp only
        by_cases h1 : j = i
        · subst h1
          rw [if_pos rfl, if_neg (show ¬ j < j by omega), if_pos (show j < j + 1 by omega)]
          exact addM_val hp ⟨(hr j hj).1, by have := hr j hj; omega⟩ hf (ho j hj)
        · rw [if_neg h1]
          by_cases h2 : j < i
          · rw [if_pos h2, if_pos (by omega)]
          · rw [if_neg h2, if_neg (by omega)]
      · have hz : o i = 0 := by
          have hz : o ((i : Int).toNat * 1 + 0) = 0 := by simpa using hz
          rw [show ((i : Int).toNat * 1 + 0) = i by omega] at hz; exact hz
        refine Exists.intro (i + 1) (And.intro (by omega) (And.intro (by omega) (And.intro (And.intro rfl (And.intro rfl (And.intro rfl (And.intro rfl (And.intro rfl (And.intro (slotI (wrapS (by omega))) trivial)))))) ?_)))
        refine And.intro (And.intro (rowEq fun j hj => ?_) rfl) (And.intro (And.intro (rowEq fun _ _ => rfl) rfl) trivial)
        show (if j < i then addM p r f o j else r j) = if j < i + 1 then addM p r f o j else r j
        by_cases h1 : j = i
        · subst h1
          rw [if_neg (show ¬ j < j by omega), if_pos (show j < j + 1 by omega)]
          exact addM_z r o f j (hr j hj) hz
        · by_cases h2 : j < i
          · rw [if_pos h2, if_pos (by omega)]
          · rw [if_neg h2, if_neg (by omega)]
    · have hge := of_decide_eq_false h
      obtain rfl : i = 8 := by omega
      exact And.intro rfl (And.intro (And.intro (rowEq fun j hj => by simp [hj]) rfl) (And.intro (And.intro (rowEq fun _ _ => rfl) rfl) trivial))

theorem addMultiple_s (p f : Int) (v w : Nat → Int) (hp : 0 < p ∧ p < 256) (hf : 0 ≤ f ∧ f < 256) (hv : ∀ j, j < 8 → 0 ≤ v j ∧ v j < p) (hw : isU8 8 w) :
    Spec Tryz.prog 39 [.int .i64 p, .ints .u8 8 v, .int .i64 f, .ints .u8 8 w] [] (Ret (.ints .u8 8 (addM p v f w))) := by
  refine Spec.ret rfl (Spec.of_vc tabOK tabEq Tryz.func39 rfl (by kernel_rfl) rfl rfl ?_)
  refine Exists.intro 4 (And.intro (by kernel_rfl) ?_)
  refine And.intro (And.intro rfl (And.intro rfl trivial)) (Spec.mono (addToRow_s p f v w hp hf hv hw) ?_)
  rintro r m ⟨rfl, rfl⟩
  refine And.intro (by omega) ?_
  refine And.intro (by omega) ?_
  refine And.intro (by omega) ?_
  refine rowEq fun j hj => ?_
  show updR _ 0 8 _ j = addM p v f w j
  simp [updR, hj]

/-- the sum of v i times the row i of F, for i less than k -/
def linS (F v : Nat → Int) : Nat → Nat → Int
  | 0, _ => 0
  | i + 1, j => linS F v i j + v i * F (i * 8 + j)

theorem apply_s (p : Int) (F v : Nat → Int) (hp : 0 < p ∧ p < 256) (hF : isU8 64 F) (hv : isU8 8 v) :
    Spec Tryz.prog 40 [.int .i64 p, .ints .u8 64 F, .ints .u8 8 v] [] (Ret (.ints .u8 8 fun j => linS F v 8 j % p)) := by
  refine Spec.ret rfl (Spec.of_vc tabOK tabEq Tryz.func40 rfl (by kernel_rfl) rfl rfl ?_)
  refine And.intro (by omega) ?_
  refine LoopVC.of (fun i : Nat => i ≤ 8) (fun i => [(0, .int .i64 p), (4, .ptr 0 [] 0 0), (6, .ptr 2 [] 0 0), (7, .ptr 3 [] 0 0), (10, .ints .u8 8 v), (11, .int .i64 i)])
    (fun i => [some (.ints .u8 64 F, 64), none, some (.ints .u8 8 fun _ => 0, 8), some (.ints .u8 8 fun j => linS F v i j % p, 8)]) (fun i => 8 - i) 0 (by omega) ?_ ?_ ?_
  · exact And.intro rfl (And.intro rfl (And.intro rfl (And.intro rfl (And.intro (rowEq fun _ _ => rfl) (And.intro rfl trivial)))))
  · exact And.intro (And.intro (rowEq fun _ _ => rfl) rfl) (And.intro (And.intro (rowEq fun _ _ => rfl) rfl) (And.intro (And.intro (rowEq fun j _ => by simp [linS]) rfl) trivial))
  · intro i hi
    refine ifVC_split (fun h => ?_) (fun h => ?_)
    · have hlt := of_decide_eq_true h
      refine And.intro ⟨by omega, by omega⟩ ?_
      have hvi := hv i (by omega)
      refine ifVC_split (fun hz => ?_) (fun hz => ?_)
      · refine Exists.intro 8 (And.intro (by kernel_rfl) ?_)
        refine And.intro (by omega) ?_
        refine And.intro ⟨by omega, by omega⟩ ?_
        refine And.intro (by omega) ?_
        refine Exists.intro (.ints .u8 8 fun j => linS F v (i + 1) j % p) (And.intro (And.intro rfl (And.intro rfl ?_)) ?_)
        · refine Spec.mono (addMultiple_s p _ _ _ hp (by rw [wrapI (by rw [Int.toNat_natCast]; omega)]; rw [Int.toNat_natCast]; exact hvi) (fun j _ => modP hp) (fun j hj => hF _ (by omega))) ?_
          rintro r m ⟨rfl, _⟩
          refine congrArg (SV.ints .u8 8) (funext fun j => ?_)
          show (linS F v i (j + 0) % p + IntKind.i64.wrap (v ((i : Int).toNat)) * F (j + ((i : Int).toNat * 8 + 0))) % p = (linS F v i j + v i * F (i * 8 + j)) % p
          rw [Int.toNat_natCast, wrapI (by omega), Int.emod_add_emod, show j + (i * 8 + 0) = i * 8 + j by omega, Nat.add_zero]
        refine And.intro (by omega) ?_
        refine Exists.intro (i + 1) (And.intro (by omega) (And.intro (by omega) (And.intro (And.intro rfl (And.intro rfl (And.intro rfl (And.intro rfl (And.intro (rowEq fun _ _ => rfl) (And.intro (slotI (wrapS (by omega))) trivial)))))) ?_)))
        refine And.intro (And.intro (rowEq fun _ _ => rfl) rfl) (And.intro (And.intro (rowEq fun _ _ => rfl) rfl) (And.intro (And.intro (rowEq fun j hj => ?_) rfl) trivial))
        show updR _ 0 8 _ j = _
        simp [updR, hj]
      · have hz : v i = 0 := by
          have hz : v ((i : Int).toNat) = 0 := by simpa using hz
          rw [Int.toNat_natCast] at hz; exact hz
        refine Exists.intro (i + 1) (And.intro (by omega) (And.intro (by omega) (And.intro (And.intro rfl (And.intro rfl (And.intro rfl (And.intro rfl (And.intro (rowEq fun _ _ => rfl) (And.intro (slotI (wrapS (by omega))) trivial)))))) ?_)))
        refine And.intro (And.intro (rowEq fun _ _ => rfl) rfl) (And.intro (And.intro (rowEq fun _ _ => rfl) rfl) (And.intro (And.intro (rowEq fun j hj => ?_) rfl) trivial))
        show linS F v i j % p = (linS F v i j + v i * F (i * 8 + j)) % p
        rw [hz]; simp
    · have hge := of_decide_eq_false h
      obtain rfl : i = 8 := by omega
      refine And.intro (by omega) ?_
      refine And.intro (by omega) ?_
      refine And.intro (by omega) ?_
      refine rowEq fun j hj => ?_
      show updR _ 0 8 _ j = _
      simp [updR, hj]

def unitV (i : Nat) : Nat → Int := fun j => if j = i then 1 else 0
theorem basisVector_s (i : Int) (hi : 0 ≤ i ∧ i < 8) : Spec Tryz.prog 23 [.int .i64 i] [] (Ret (.ints .u8 8 (unitV i.toNat))) := by
  refine Spec.ret rfl (Spec.of_vc tabOK tabEq Tryz.func23 rfl (by kernel_rfl) rfl rfl ?_)
  refine And.intro ⟨by omega, by omega⟩ ?_
  refine And.intro (by omega) ?_
  refine And.intro (by omega) ?_
  refine And.intro (by omega) ?_
  refine And.intro (by omega) ?_
  refine rowEq fun j hj => ?_
  show updR _ 0 8 _ j = unitV i.toNat j
  simp [updR, hj, upd1, unitV]

/-- the table turned round -/
def flipF (t : Nat → Int) : Nat → Int := fun q => t ((q / 8 % 8) * 64 + (q / 64) * 8 + q % 8)
theorem flipTable_s (t : Nat → Int) : Spec Tryz.prog 89 [.ints .u8 512 t] [] (Ret (.ints .u8 512 (flipF t))) := by
  refine Spec.ret rfl (Spec.of_vc tabOK tabEq Tryz.func89 rfl (by kernel_rfl) rfl rfl ?_)
  refine And.intro (by omega) ?_
  refine LoopVC.of (fun i : Nat => i ≤ 8) (fun i => [(2, .ptr 1 [] 0 0), (3, .ptr 2 [] 0 0), (8, .ints .u8 512 t), (9, .int .i64 i)])
    (fun i => [none, some (.ints .u8 512 fun _ => 0, 512), some (.ints .u8 512 fun q => if q / 8 % 8 < i then flipF t q else 0, 512)]) (fun i => 8 - i) 0 (by omega) ?_ ?_ ?_
  · exact And.intro rfl (And.intro rfl (And.intro (rowEq fun _ _ => rfl) (And.intro rfl trivial)))
  · exact And.intro (And.intro (rowEq fun _ _ => rfl) rfl) (And.intro (And.intro (rowEq fun _ _ => rfl) rfl) trivial)
  · intro i hi
    refine ifVC_split (fun h => ?_) (fun h => ?_)
    · have hlt := of_decide_eq_true h
      refine And.intro ⟨by omega, by omega⟩ ?_
      refine And.intro (by omega) ?_
      refine And.intro (by omega) ?_
      refine LoopVC.of (fun k : Nat => k ≤ 8) (fun k => [(2, .ptr 1 [] 0 0), (3, .ptr 2 [] 0 0), (4, .int .i64 i), (8, .ints .u8 512 t), (9, .int .i64 i), (13, .ints .u8 64 fun j => t (j + i * 64)), (14, .int .i64 k)])
        (fun k => [none, some (.ints .u8 512 fun _ => 0, 512), some (.ints .u8 512 fun q => if q / 8 % 8 < i ∨ (q / 8 % 8 = i ∧ q / 64 < k) then flipF t q else 0, 512), none]) (fun k => 8 - k) 0 (by omega) ?_ ?_ ?_
      · exact And.intro rfl (And.intro rfl (And.intro rfl (And.intro (rowEq fun _ _ => rfl) (And.intro rfl (And.intro (rowEq fun j hj => by show updR _ 0 64 _ (j + 0) = _; simp [updR, hj]) (And.intro rfl trivial))))))
      · exact And.intro (And.intro (rowEq fun _ _ => rfl) rfl) (And.intro (And.intro (rowEq fun q _ => by simp) rfl) trivial)
      · intro k hk
        refine ifVC_split (fun h => ?_) (fun h => ?_)
        · have hlt2 := of_decide_eq_true h
          refine And.intro ⟨by omega, by omega⟩ ?_
          refine And.intro (by omega) ?_
          refine Exists.intro 4 (And.intro (by kernel_rfl) ?_)
          refine And.intro (by omega) ?_
          refine And.intro ⟨by omega, by omega⟩ ?_
          refine And.intro ⟨by omega, by omega⟩ ?_
          refine And.intro (by omega) ?_
          refine Exists.intro (k + 1) (And.intro (by omega) (And.intro (by omega) (And.intro (And.intro rfl (And.intro rfl (And.intro rfl (And.intro (rowEq fun _ _ => rfl) (And.intro rfl (And.intro (rowEq fun _ _ => rfl) (And.intro (slotI (wrapS (by omega))) trivial))))))) ?_)))
          refine And.intro (And.intro (rowEq fun _ _ => rfl) rfl) (And.intro (And.intro (rowEq fun q hq => ?_) rfl) trivial)
          show updR _ ((i : Int).toNat * 8 + ((k : Int).toNat * 64 + 0)) 8 _ q = _
          unfold updR
          rw [Int.toNat_natCast, Int.toNat_natCast]
          dsimp only
          by_cases h1 : i * 8 + (k * 64 + 0) ≤ q ∧ q < i * 8 + (k * 64 + 0) + 8
          · rw [if_pos h1, if_pos (by omega), if_pos (by omega)]
            show t _ = t _
            congr 1
            omega
          · rw [if_neg h1]
            by_cases h2 : q / 8 % 8 < i ∨ q / 8 % 8 = i ∧ q / 64 < k
            · rw [if_pos h2, if_pos (by omega)]
            · rw [if_neg h2, if_neg (by omega)]
        · have hge := of_decide_eq_false h
          obtain rfl : k = 8 := by omega
          refine Exists.intro (i + 1) (And.intro (by omega) (And.intro (by omega) (And.intro (And.intro rfl (And.intro rfl (And.intro (rowEq fun _ _ => rfl) (And.intro (slotI (wrapS (by omega))) trivial)))) ?_)))
          refine And.intro (And.intro (rowEq fun _ _ => rfl) rfl) (And.intro (And.intro (rowEq fun q hq => ?_) rfl) trivial)
          show (if q / 8 % 8 < i ∨ (q / 8 % 8 = i ∧ q / 64 < 8) then flipF t q else 0) = _
          by_cases h2 : q / 8 % 8 < i ∨ q / 8 % 8 = i ∧ q / 64 < 8
          · rw [if_pos h2, if_pos (by omega)]
          · rw [if_neg h2, if_neg (by omega)]
    · have hge := of_decide_eq_false h
      obtain rfl : i = 8 := by omega
      refine And.intro (by omega) ?_
      refine And.intro (by omega) ?_
      refine And.intro (by omega) ?_
      refine rowEq fun q hq => ?_
      show updR _ 0 512 _ q = flipF t q
      simp [updR, hq]
      omega
end Go.Proofs.YtjanlnngeklhoabGreat

/- The model's sums, maps and products of vectors. -/
set_option linter.unusedVariables false
set_option linter.unusedSimpArgs false
set_option maxRecDepth 100000
namespace Go.Proofs.YtjanlnngeklhoabGreat
open M

theorem mod_twice {p x : Int} (hp : 0 < p) : 0 ≤ x.tmod p + p ∧ (x.tmod p + p).tmod p = x % p := by
  have hm := Int.emod_nonneg x (show p ≠ 0 by omega)
  have hl := Int.emod_lt_of_pos x hp
  have e := Int.tmod_eq_emod (a := x) (b := p)
  have hn : (p.natAbs : Int) = p := by omega
  have key : x.tmod p + p = x % p + p ∨ x.tmod p + p = x % p := by
    rw [e]
    split
    · left; simp
    · right; rw [hn]; omega
  rcases key with h | h
  · rw [h]
    refine ⟨by omega, ?_⟩
    rw [Int.tmod_eq_emod_of_nonneg (by omega), Int.add_emod_right, Int.emod_emod]
  · rw [h]
    refine ⟨hm, ?_⟩
    rw [Int.tmod_eq_emod_of_nonneg hm, Int.emod_emod]

theorem l01Mod_s (p x : Int) (hp : 0 < p ∧ p < 256) (hx : -9000000000 ≤ x ∧ x ≤ 9000000000) : Spec Tryz.prog 34 [.int .i64 p, .int .i64 x] [] (Ret (.int .u8 (x % p))) := by
  refine Spec.ret rfl (Spec.of_vc tabOK tabEq Tryz.func34 rfl (by kernel_rfl) rfl rfl ?_)
  refine And.intro (by omega) ?_
  refine And.intro (by omega) ?_
  have h := mod_twice (p := p) (x := x) hp.1
  have hb : x.tmod p ≤ 9000000000 := by
    have e := Int.tmod_eq_emod (a := x) (b := p)
    have hl := Int.emod_lt_of_pos x hp.1
    rw [e]
    split <;> omega
  refine congrArg (SV.int .u8) ?_
  rw [wrapI (x := x.tmod p + p) (by omega), h.2, wrapB (modB hp)]

theorem l01Add_s (p k : Int) (v w : Nat → Int) (hp : 0 < p ∧ p < 256) (hk : -256 < k ∧ k < 256) (hv : isU8 8 v) (hw : isU8 8 w) :
    Spec Tryz.prog 47 [.int .i64 p, .ints .u8 8 v, .ints .u8 8 w, .int .i64 k] [] (Ret (.ints .u8 8 (addM p v k w))) := by
  refine Spec.ret rfl (Spec.of_vc tabOK tabEq Tryz.func47 rfl (by kernel_rfl) rfl rfl ?_)
  refine LoopVC.of (fun i : Nat => i ≤ 8) (fun i => [(0, .int .i64 p), (3, .int .i64 k), (5, .ptr 0 [] 0 0), (6, .ptr 1 [] 0 0), (8, .ptr 2 [] 0 0), (9, .int .i64 i)])
    (fun i => [some (.ints .u8 8 fun j => if j < i then addM p v k w j else v j, 8), some (.ints .u8 8 w, 8), some (.ints .u8 8 fun _ => 0, 8)]) (fun i => 8 - i) 0 (by omega) ?_ ?_ ?_
  · exact And.intro rfl (And.intro rfl (And.intro rfl (And.intro rfl (And.intro rfl (And.intro rfl trivial)))))
  · exact And.intro (And.intro (rowEq fun _ _ => rfl) rfl) (And.intro (And.intro (rowEq fun _ _ => rfl) rfl) (And.intro (And.intro (rowEq fun _ _ => rfl) rfl) trivial))
  · intro i hi
    refine ifVC_split (fun h => ?_) (fun h => ?_)
    · have hlt := of_decide_eq_true h
      have hvi := hv i (by omega)
      have hwi := hw i (by omega)
      have hmul : -65025 ≤ k * w i ∧ k * w i ≤ 65025 := by
        rcases Int.le_total 0 k with h0 | h0
        · have := mulB ⟨h0, hk.2⟩ hwi; omega
        · have := mulB (a := -k) ⟨by omega, by omega⟩ hwi
          rw [Int.neg_mul] at this; omega
      refine Exists.intro 14 (And.intro (by kernel_rfl) ?_)
      refine And.intro ⟨by omega, by omega⟩ ?_
      refine And.intro (by omega) ?_
      refine And.intro ⟨by omega, by omega⟩ ?_
      refine And.intro (by omega) ?_
      have hin : ∀ x y : Nat, x = i → y = i → IntKind.i64.wrap (IntKind.i64.wrap ((fun j => if j < i then addM p v k w j else v j) x) + IntKind.i64.wrap (k * IntKind.i64.wrap (w y))) = v i + k * w i := fun x y hx hy => by
        subst hx; subst hy
        dsimp only
        rw [if_neg (show ¬ y < y by omega), wrapI (x := v y) (by omega), wrapI (x := w y) (by omega), wrapI (x := k * w y) (by omega), wrapI (by omega)]
      refine Exists.intro (.int .u8 (addM p v k w i)) (And.intro (And.intro rfl (And.intro rfl ?_)) ?_)
      · refine Spec.mono (l01Mod_s p _ hp (by rw [hin _ _ (by omega) (by omega)]; omega)) ?_
        rintro r m ⟨rfl, _⟩
        refine congrArg (SV.int .u8) ?_
        rw [hin _ _ (by omega) (by omega)]
        rfl
      refine And.intro ⟨by omega, by omega⟩ ?_
      refine And.intro (by omega) ?_
      refine Exists.intro (i + 1) (And.intro (by omega) (And.intro (by omega) (And.intro (And.intro rfl (And.intro rfl (And.intro rfl (And.intro rfl (And.intro rfl (And.intro (slotI (wrapS (by omega))) trivial)))))) ?_)))
      refine And.intro (And.intro (rowEq fun j hj => ?_) rfl) (And.intro (And.intro (rowEq fun _ _ => rfl) rfl) (And.intro (And.intro (rowEq fun _ _ => rfl) rfl) trivial))
      show upd1 _ _ _ j = if j < i + 1 then addM p v k w j else v j
      unfold upd1
      rw [show ((i : Int).toNat * 1 + 0) = i by omega]
      dsimp only
      by_cases h1 : j = i
      · subst h1
        rw [if_pos rfl, if_pos (show j < j + 1 by omega)]
      · rw [if_neg h1]
        by_cases h2 : j < i
        · rw [if_pos h2, if_pos (by omega)]
        · rw [if_neg h2, if_neg (by omega)]
    · have hge := of_decide_eq_false h
      obtain rfl : i = 8 := by omega
      refine And.intro (by omega) ?_
      refine And.intro (by omega) ?_
      refine And.intro (by omega) ?_
      refine rowEq fun j hj => ?_
      show updR _ 0 8 _ j = addM p v k w j
      simp [updR, hj]

theorem l01Basis_s (i : Int) (hi : 0 ≤ i ∧ i < 8) : Spec Tryz.prog 56 [.int .i64 i] [] (Ret (.ints .u8 8 (unitV i.toNat))) := by
  refine Spec.ret rfl (Spec.of_vc tabOK tabEq Tryz.func56 rfl (by kernel_rfl) rfl rfl ?_)
  refine And.intro (by omega) ?_
  refine And.intro ⟨by omega, by omega⟩ ?_
  refine And.intro (by omega) ?_
  refine And.intro (by omega) ?_
  refine And.intro (by omega) ?_
  refine And.intro (by omega) ?_
  refine rowEq fun j hj => ?_
  show updR _ 0 8 _ j = unitV i.toNat j
  simp [updR, hj, upd1, unitV]

theorem l01Apply_s (p : Int) (n : Nat) (F v : Nat → Int) (hp : 0 < p ∧ p < 256) (hn : n ≤ 8) (hF : isU8 64 F) (hv : isU8 8 v) :
    Spec Tryz.prog 28 [.int .i64 p, .int .i64 n, .ints .u8 64 F, .ints .u8 8 v] [] (Ret (.ints .u8 8 fun j => linS F v n j % p)) := by
  refine Spec.ret rfl (Spec.of_vc tabOK tabEq Tryz.func28 rfl (by kernel_rfl) rfl rfl ?_)
  refine And.intro (by omega) ?_
  refine LoopVC.of (fun i : Nat => i ≤ n) (fun i => [(0, .int .i64 p), (1, .int .i64 n), (6, .ptr 0 [] 0 0), (7, .ptr 1 [] 0 0), (8, .ptr 2 [] 0 0), (9, .ptr 3 [] 0 0), (10, .int .i64 i)])
    (fun i => [some (.ints .u8 64 F, 64), some (.ints .u8 8 v, 8), some (.ints .u8 8 fun _ => 0, 8), some (.ints .u8 8 fun j => linS F v i j % p, 8)]) (fun i => n - i) 0 (by omega) ?_ ?_ ?_
  · exact And.intro rfl (And.intro rfl (And.intro rfl (And.intro rfl (And.intro rfl (And.intro rfl (And.intro rfl trivial))))))
  · exact And.intro (And.intro (rowEq fun _ _ => rfl) rfl) (And.intro (And.intro (rowEq fun _ _ => rfl) rfl) (And.intro (And.intro (rowEq fun _ _ => rfl) rfl) (And.intro (And.intro (rowEq fun j hj => by show updR _ 0 8 _ j = _; simp [updR, hj, linS]) rfl) trivial)))
  · intro i hi
    refine ifVC_split (fun h => ?_) (fun h => ?_)
    · have hlt := of_decide_eq_true h
      refine And.intro ⟨by omega, by omega⟩ ?_
      refine And.intro (by omega) ?_
      have hvi := hv i (by omega)
      have hidx : (i : Int).toNat * 1 + 0 = i := by omega
      refine ifVC_split (fun hz => ?_) (fun hz => ?_)
      · refine Exists.intro 10 (And.intro (by kernel_rfl) ?_)
        refine And.intro (by omega) ?_
        refine And.intro ⟨by omega, by omega⟩ ?_
        refine And.intro (by omega) ?_
        refine And.intro ⟨by omega, by omega⟩ ?_
        refine And.intro (by omega) ?_
        refine Exists.intro (.ints .u8 8 fun j => linS F v (i + 1) j % p) (And.intro (And.intro rfl (And.intro rfl ?_)) ?_)
        · refine Spec.mono (l01Add_s p _ _ _ hp (by rw [hidx, wrapI (by omega)]; omega) (fun j _ => modB hp) (fun j hj => hF _ (by omega))) ?_
          rintro r m ⟨rfl, _⟩
          refine congrArg (SV.ints .u8 8) (funext fun j => ?_)
          show (linS F v i (j + 0) % p + IntKind.i64.wrap (v ((i : Int).toNat * 1 + 0)) * F (j + ((i : Int).toNat * 8 + 0))) % p = (linS F v i j + v i * F (i * 8 + j)) % p
          rw [hidx, Int.toNat_natCast, wrapI (by omega), Int.emod_add_emod, show j + (i * 8 + 0) = i * 8 + j by omega, Nat.add_zero]
        refine And.intro (by omega) ?_
        refine Exists.intro (i + 1) (And.intro (by omega) (And.intro (by omega) (And.intro (And.intro rfl (And.intro rfl (And.intro rfl (And.intro rfl (And.intro rfl (And.intro rfl (And.intro (slotI (wrapS (by omega))) trivial))))))) ?_)))
        refine And.intro (And.intro (rowEq fun _ _ => rfl) rfl) (And.intro (And.intro (rowEq fun _ _ => rfl) rfl) (And.intro (And.intro (rowEq fun _ _ => rfl) rfl) (And.intro (And.intro (rowEq fun j hj => ?_) rfl) trivial)))
        show updR _ 0 8 _ j = _
        simp [updR, hj]
      · have hz : v i = 0 := by
          have hz : v ((i : Int).toNat * 1 + 0) = 0 := by simpa using hz
          rw [hidx] at hz; exact hz
        refine Exists.intro (i + 1) (And.intro (by omega) (And.intro (by omega) (And.intro (And.intro rfl (And.intro rfl (And.intro rfl (And.intro rfl (And.intro rfl (And.intro rfl (And.intro (slotI (wrapS (by omega))) trivial))))))) ?_)))
        refine And.intro (And.intro (rowEq fun _ _ => rfl) rfl) (And.intro (And.intro (rowEq fun _ _ => rfl) rfl) (And.intro (And.intro (rowEq fun _ _ => rfl) rfl) (And.intro (And.intro (rowEq fun j hj => ?_) rfl) trivial)))
        show linS F v i j % p = (linS F v i j + v i * F (i * 8 + j)) % p
        rw [hz]; simp
    · have hge := of_decide_eq_false h
      obtain rfl : i = n := by omega
      refine And.intro (by omega) ?_
      refine And.intro (by omega) ?_
      refine And.intro (by omega) ?_
      refine rowEq fun j hj => ?_
      show updR _ 0 8 _ j = _
      simp [updR, hj]

/-- an algebra as plain data -/
def algV (p n : Int) (U T : Nat → Int) : SV := .pair (.int .i64 p) (.pair (.int .i64 n) (.pair (.ints .u8 8 U) (.pair (.ints .u8 512 T) .unit)))
/-- the row i of a table -/
def rowT (T : Nat → Int) (i : Nat) : Nat → Int := fun q => T (q + i * 64)
def timS (p : Int) (n : Nat) (T v w : Nat → Int) : Nat → Nat → Int
  | 0, _ => 0
  | i + 1, j => timS p n T v w i j + v i * (linS (rowT T i) w n j % p)

theorem l01Times_s (p : Int) (n : Nat) (U T v w : Nat → Int) (hp : 0 < p ∧ p < 256) (hn : n ≤ 8) (hT : isU8 512 T) (hv : isU8 8 v) (hw : isU8 8 w) :
    Spec Tryz.prog 111 [algV p n U T, .ints .u8 8 v, .ints .u8 8 w] [] (Ret (.ints .u8 8 fun j => timS p n T v w n j % p)) := by
  refine Spec.ret rfl (Spec.of_vc tabOK tabEq Tryz.func111 rfl (by kernel_rfl) rfl rfl ?_)
  refine And.intro (by omega) ?_
  refine LoopVC.of (fun i : Nat => i ≤ n) (fun i => [(3, .ptr 0 [] 0 0), (4, .ptr 1 [] 0 0), (5, .ptr 2 [] 0 0), (6, .ptr 3 [] 0 0), (7, .ptr 4 [] 0 0), (8, .int .i64 i)])
    (fun i => [some (algV p n U T, 522), some (.ints .u8 8 v, 8), some (.ints .u8 8 w, 8), some (.ints .u8 8 fun _ => 0, 8), some (.ints .u8 8 fun j => timS p n T v w i j % p, 8)]) (fun i => n - i) 0 (by omega) ?_ ?_ ?_
  · exact And.intro rfl (And.intro rfl (And.intro rfl (And.intro rfl (And.intro rfl (And.intro rfl trivial)))))
  · exact And.intro (And.intro (And.intro rfl (And.intro rfl (And.intro (rowEq fun _ _ => rfl) (And.intro (rowEq fun _ _ => rfl) rfl)))) rfl) (And.intro (And.intro (rowEq fun _ _ => rfl) rfl) (And.intro (And.intro (rowEq fun _ _ => rfl) rfl) (And.intro (And.intro (rowEq fun _ _ => rfl) rfl) (And.intro (And.intro (rowEq fun j hj => by show updR _ 0 8 _ j = _; simp [updR, hj, timS]) rfl) trivial))))
  · intro i hi
    have algR : SV.eqv (algV p n U T) (algV p n U T) := And.intro rfl (And.intro rfl (And.intro (rowEq fun _ _ => rfl) (And.intro (rowEq fun _ _ => rfl) rfl)))
    refine ifVC_split (fun h => ?_) (fun h => ?_)
    · have hlt := of_decide_eq_true h
      refine And.intro ⟨by omega, by omega⟩ ?_
      refine And.intro (by omega) ?_
      have hvi := hv i (by omega)
      have hidx : (i : Int).toNat * 1 + 0 = i := by omega
      refine ifVC_split (fun hz => ?_) (fun hz => ?_)
      · refine Exists.intro 18 (And.intro (by kernel_rfl) ?_)
        refine And.intro (by omega) ?_
        refine And.intro ⟨by omega, by omega⟩ ?_
        refine And.intro (by omega) ?_
        refine And.intro (by omega) ?_
        refine Exists.intro (.ints .u8 8 fun j => linS (rowT T i) w n j % p) (And.intro (And.intro rfl (And.intro rfl ?_)) ?_)
        · refine Spec.mono (l01Apply_s p n _ _ hp hn (fun j hj => hT _ (by omega)) (fun j hj => hw _ (by omega))) ?_
          rintro r m ⟨rfl, _⟩
          rw [Int.toNat_natCast]
          rfl
        refine And.intro ⟨by omega, by omega⟩ ?_
        refine And.intro (by omega) ?_
        refine Exists.intro (.ints .u8 8 fun j => timS p n T v w (i + 1) j % p) (And.intro (And.intro rfl (And.intro rfl ?_)) ?_)
        · refine Spec.mono (l01Add_s p _ _ _ hp (by rw [hidx, wrapI (by omega)]; omega) (fun j _ => modB hp) (fun j _ => modB hp)) ?_
          rintro r m ⟨rfl, _⟩
          refine congrArg (SV.ints .u8 8) (funext fun j => ?_)
          show (timS p n T v w i (j + 0) % p + IntKind.i64.wrap (v ((i : Int).toNat * 1 + 0)) * (linS (rowT T i) w n j % p)) % p = (timS p n T v w i j + v i * (linS (rowT T i) w n j % p)) % p
          rw [hidx, wrapI (by omega), Int.emod_add_emod, Nat.add_zero]
        refine And.intro (by omega) ?_
        refine Exists.intro (i + 1) (And.intro (by omega) (And.intro (by omega) (And.intro (And.intro rfl (And.intro rfl (And.intro rfl (And.intro rfl (And.intro rfl (And.intro (slotI (wrapS (by omega))) trivial)))))) ?_)))
        refine And.intro (And.intro algR rfl) (And.intro (And.intro (rowEq fun _ _ => rfl) rfl) (And.intro (And.intro (rowEq fun _ _ => rfl) rfl) (And.intro (And.intro (rowEq fun _ _ => rfl) rfl) (And.intro (And.intro (rowEq fun j hj => ?_) rfl) trivial))))
        show updR _ 0 8 _ j = _
        simp [updR, hj]
      · have hz : v i = 0 := by
          have hz : v ((i : Int).toNat * 1 + 0) = 0 := by simpa using hz
          rw [hidx] at hz; exact hz
        refine Exists.intro (i + 1) (And.intro (by omega) (And.intro (by omega) (And.intro (And.intro rfl (And.intro rfl (And.intro rfl (And.intro rfl (And.intro rfl (And.intro (slotI (wrapS (by omega))) trivial)))))) ?_)))
        refine And.intro (And.intro algR rfl) (And.intro (And.intro (rowEq fun _ _ => rfl) rfl) (And.intro (And.intro (rowEq fun _ _ => rfl) rfl) (And.intro (And.intro (rowEq fun _ _ => rfl) rfl) (And.intro (And.intro (rowEq fun j hj => ?_) rfl) trivial))))
        show timS p n T v w i j % p = (timS p n T v w i j + v i * (linS (rowT T i) w n j % p)) % p
        rw [hz]; simp
    · have hge := of_decide_eq_false h
      obtain rfl : i = n := by omega
      refine And.intro (by omega) ?_
      refine And.intro (by omega) ?_
      refine And.intro (by omega) ?_
      refine rowEq fun j hj => ?_
      show updR _ 0 8 _ j = _
      simp [updR, hj]
end Go.Proofs.YtjanlnngeklhoabGreat

/- An argument that is an algebra: its numbers. -/
set_option linter.unusedVariables false
set_option linter.unusedSimpArgs false
namespace Go.Proofs.YtjanlnngeklhoabGreat
variable {P : Program} {H : Type} {enc : TypeId × Value → H}

end Go.Proofs.YtjanlnngeklhoabGreat

/- The laws' copies of tables, and both checks of linear maps, tables and the form of algebras. -/
set_option linter.unusedVariables false
set_option linter.unusedSimpArgs false
set_option maxRecDepth 100000
namespace Go.Proofs.YtjanlnngeklhoabGreat
open M

theorem toLinear_s (F : Nat → Int) : Spec Tryz.prog 18 [.ints .u8 64 F] [] (Ret (.ints .u8 64 F)) := by
  refine Spec.ret rfl (Spec.of_vc tabOK tabEq Tryz.func18 rfl (by kernel_rfl) rfl rfl ?_)
  refine LoopVC.of (fun i : Nat => i ≤ 8) (fun i => [(1, .ptr 0 [] 0 0), (2, .ptr 1 [] 0 0), (3, .ptr 2 [] 0 0), (4, .int .i64 i)])
    (fun i => [some (.ints .u8 64 F, 64), some (.ints .u8 64 fun _ => 0, 64), some (.ints .u8 64 fun q => if q < i * 8 then F q else 0, 64)]) (fun i => 8 - i) 0 (by omega) ?_ ?_ ?_
  · exact And.intro rfl (And.intro rfl (And.intro rfl (And.intro rfl trivial)))
  · exact And.intro (And.intro (rowEq fun _ _ => rfl) rfl) (And.intro (And.intro (rowEq fun _ _ => rfl) rfl) (And.intro (And.intro (rowEq fun _ _ => by simp) rfl) trivial))
  · intro i hi
    refine ifVC_split (fun h => ?_) (fun h => ?_)
    · have hlt := of_decide_eq_true h
      refine And.intro ⟨by omega, by omega⟩ ?_
      refine And.intro (by omega) ?_
      refine And.intro trivial (Spec.mono (toVector_s _) ?_)
      rintro r m ⟨rfl, rfl⟩
      refine And.intro ⟨by omega, by omega⟩ ?_
      refine And.intro (by omega) ?_
      refine Exists.intro (i + 1) (And.intro (by omega) (And.intro (by omega) (And.intro (And.intro rfl (And.intro rfl (And.intro rfl (And.intro (slotI (wrapS (by omega))) trivial)))) ?_)))
      refine And.intro (And.intro (rowEq fun _ _ => rfl) rfl) (And.intro (And.intro (rowEq fun _ _ => rfl) rfl) (And.intro (And.intro (rowEq fun q hq => ?_) rfl) trivial))
      show updR _ ((i : Int).toNat * 8 + 0) 8 (fun j => F (j + ((i : Int).toNat * 8 + 0))) q = if q < (i + 1) * 8 then F q else 0
      unfold updR
      rw [Int.toNat_natCast]
      dsimp only
      by_cases h1 : i * 8 + 0 ≤ q ∧ q < i * 8 + 0 + 8
      · rw [if_pos h1, if_pos (by omega), show q - (i * 8 + 0) + (i * 8 + 0) = q by omega]
      · rw [if_neg h1]
        by_cases h2 : q < i * 8
        · rw [if_pos h2, if_pos (by omega)]
        · rw [if_neg h2, if_neg (by omega)]
    · have hge := of_decide_eq_false h
      obtain rfl : i = 8 := by omega
      refine And.intro (by omega) ?_
      refine And.intro (by omega) ?_
      refine And.intro (by omega) ?_
      refine rowEq fun q hq => ?_
      show updR _ 0 64 _ q = F q
      simp [updR, hq]

theorem toTable_s (T : Nat → Int) : Spec Tryz.prog 17 [.ints .u8 512 T] [] (Ret (.ints .u8 512 T)) := by
  refine Spec.ret rfl (Spec.of_vc tabOK tabEq Tryz.func17 rfl (by kernel_rfl) rfl rfl ?_)
  refine LoopVC.of (fun i : Nat => i ≤ 8) (fun i => [(1, .ptr 0 [] 0 0), (2, .ptr 1 [] 0 0), (3, .ptr 2 [] 0 0), (4, .int .i64 i)])
    (fun i => [some (.ints .u8 512 T, 512), some (.ints .u8 512 fun _ => 0, 512), some (.ints .u8 512 fun q => if q < i * 64 then T q else 0, 512)]) (fun i => 8 - i) 0 (by omega) ?_ ?_ ?_
  · exact And.intro rfl (And.intro rfl (And.intro rfl (And.intro rfl trivial)))
  · exact And.intro (And.intro (rowEq fun _ _ => rfl) rfl) (And.intro (And.intro (rowEq fun _ _ => rfl) rfl) (And.intro (And.intro (rowEq fun _ _ => by simp) rfl) trivial))
  · intro i hi
    refine ifVC_split (fun h => ?_) (fun h => ?_)
    · have hlt := of_decide_eq_true h
      refine And.intro ⟨by omega, by omega⟩ ?_
      refine And.intro (by omega) ?_
      refine And.intro trivial (Spec.mono (toLinear_s _) ?_)
      rintro r m ⟨rfl, rfl⟩
      refine And.intro ⟨by omega, by omega⟩ ?_
      refine And.intro (by omega) ?_
      refine Exists.intro (i + 1) (And.intro (by omega) (And.intro (by omega) (And.intro (And.intro rfl (And.intro rfl (And.intro rfl (And.intro (slotI (wrapS (by omega))) trivial)))) ?_)))
      refine And.intro (And.intro (rowEq fun _ _ => rfl) rfl) (And.intro (And.intro (rowEq fun _ _ => rfl) rfl) (And.intro (And.intro (rowEq fun q hq => ?_) rfl) trivial))
      show updR _ ((i : Int).toNat * 64 + 0) 64 (fun j => T (j + ((i : Int).toNat * 64 + 0))) q = if q < (i + 1) * 64 then T q else 0
      unfold updR
      rw [Int.toNat_natCast]
      dsimp only
      by_cases h1 : i * 64 + 0 ≤ q ∧ q < i * 64 + 0 + 64
      · rw [if_pos h1, if_pos (by omega), show q - (i * 64 + 0) + (i * 64 + 0) = q by omega]
      · rw [if_neg h1]
        by_cases h2 : q < i * 64
        · rw [if_pos h2, if_pos (by omega)]
        · rw [if_neg h2, if_neg (by omega)]
    · have hge := of_decide_eq_false h
      obtain rfl : i = 8 := by omega
      refine And.intro (by omega) ?_
      refine And.intro (by omega) ?_
      refine And.intro (by omega) ?_
      refine rowEq fun q hq => ?_
      show updR _ 0 512 _ q = T q
      simp [updR, hq]

theorem entriesB_congr {p n : Int} {v w : Nat → Int} (h : ∀ j, j < 8 → v j = w j) : entriesB p n v = entriesB p n w := by
  unfold entriesB
  rw [Bool.eq_iff_iff, List.all_eq_true, List.all_eq_true]
  constructor <;> intro hh i hi <;> have := hh i hi <;> have hi := List.mem_range.1 hi <;> simpa [entryB, h i hi] using this
theorem allEq_congr {n : Nat} {v w v' w' : Nat → Int} (h : ∀ j, j < n → v j = v' j) (h' : ∀ j, j < n → w j = w' j) : allEq n v w = allEq n v' w' := by
  unfold allEq
  rw [Bool.eq_iff_iff, List.all_eq_true, List.all_eq_true]
  constructor <;> intro hh i hi <;> have := hh i hi <;> have hi := List.mem_range.1 hi <;> simpa [h i hi, h' i hi] using this

/-- the part i of m numbers of a row -/
def partF (F : Nat → Int) (m i : Nat) : Nat → Int := fun j => F (j + i * m)
/-- the image i of a linear map with images behind f that are 0 -/
def imageB (p f n : Int) (F : Nat → Int) (i : Nat) : Bool := entriesB p n (partF F 8 i) && (decide ((i : Int) < f) || allEq 8 (partF F 8 i) fun _ => 0)
def linB (p f n : Int) (F : Nat → Int) : Bool := (List.range 8).all (imageB p f n F)
def rowB (p n : Int) (T : Nat → Int) (i : Nat) : Bool := linB p n n (partF T 64 i) && (decide ((i : Int) < n) || allEq 64 (partF T 64 i) fun _ => 0)
def tabB (p n : Int) (T : Nat → Int) : Bool := (List.range 8).all (rowB p n T)
theorem all8_no {f : Nat → Bool} {i : Nat} (hi : i < 8) (h : f i = false) : (List.range 8).all f = false := by
  cases hb : (List.range 8).all f with
  | false => rfl
  | true => have := List.all_eq_true.1 hb i (List.mem_range.2 hi); rw [h] at this; cases this
theorem all8_yes {f : Nat → Bool} (h : ∀ i, i < 8 → f i = true) : (List.range 8).all f = true := List.all_eq_true.2 fun i hi => h i (List.mem_range.1 hi)

theorem l01Linear_s (p n : Int) (F : Nat → Int) (hF : isU8 64 F) : Spec Tryz.prog 55 [.int .i64 p, .int .i64 n, .ints .u8 64 F] [] (Ret (.bool (linB p n n F))) := by
  refine Spec.ret rfl (Spec.of_vc tabOK tabEq Tryz.func55 rfl (by kernel_rfl) rfl rfl ?_)
  refine LoopVC.of (fun i : Nat => i ≤ 8 ∧ ∀ j, j < i → imageB p n n F j = true) (fun i => [(0, .int .i64 p), (1, .int .i64 n), (5, .ptr 0 [] 0 0), (7, .int .i64 i)]) (fun _ => [some (.ints .u8 64 F, 64)]) (fun i => 8 - i) 0 ⟨by omega, fun j hj => by omega⟩ ?_ ?_ ?_
  · exact And.intro rfl (And.intro rfl (And.intro rfl (And.intro rfl trivial)))
  · exact And.intro (And.intro (rowEq fun _ _ => rfl) rfl) trivial
  · rintro i ⟨hi, hall⟩
    refine ifVC_split (fun h => ?_) (fun h => ?_)
    · have hlt := of_decide_eq_true h
      have hidx : (i : Int).toNat = i := by omega
      have step : imageB p n n F i = true → ∀ (s : Slots) (m : Mem), eqvO (lk s 0) (.int .i64 p) → eqvO (lk s 1) (.int .i64 n) → eqvO (lk s 5) (.ptr 0 [] 0 0) → eqvO (lk s 7) (.int .i64 (IntKind.i64.wrap ((i : Int) + 1))) → memCut m [some (.ints .u8 64 F, 64)] →
          ∃ x' : Nat, (x' ≤ 8 ∧ ∀ j, j < x' → imageB p n n F j = true) ∧ 8 - x' < 8 - i ∧ subL [(0, .int .i64 p), (1, .int .i64 n), (5, .ptr 0 [] 0 0), (7, .int .i64 x')] s ∧ memCut m [some (.ints .u8 64 F, 64)] := fun he s m h0 h1 h5 h7 hm =>
        ⟨i + 1, ⟨by omega, fun j hj => by
          by_cases hji : j = i
          · subst hji; exact he
          · exact hall j (by omega)⟩, by omega, ⟨h0, h1, h5, by rw [wrapS (by omega)] at h7; exact h7, trivial⟩, hm⟩
      refine And.intro ⟨by omega, by omega⟩ ?_
      refine And.intro (by omega) ?_
      refine And.intro trivial (Spec.mono (l01Vector_s p n _ (fun j hj => hF _ (by omega))) ?_)
      rintro r m ⟨rfl, rfl⟩
      have he : entriesB p n (fun j => F (j + ((i : Int).toNat * 8 + 0))) = entriesB p n (partF F 8 i) := by rw [hidx]; rfl
      refine ifVC_split (fun hv => ?_) (fun hv => ?_)
      · have hv : entriesB p n (partF F 8 i) = false := by rw [← he]; simpa using hv
        exact boolEq (by unfold linB; rw [all8_no (i := i) (by omega) (by simp [imageB, hv])])
      · have hv : entriesB p n (partF F 8 i) = true := by rw [← he]; simpa using hv
        refine ifVC_split (fun hb => ?_) (fun hb => ?_)
        · have hb := of_decide_eq_true hb
          refine And.intro ⟨by omega, by omega⟩ ?_
          refine And.intro (by omega) ?_
          have hq : allEq 8 (fun j => F (j + ((i : Int).toNat * 8 + 0))) (fun _ => 0) = allEq 8 (partF F 8 i) (fun _ => 0) := by rw [hidx]; rfl
          refine ifVC_split (fun hc => ?_) (fun hc => ?_)
          · have hc : allEq 8 (partF F 8 i) (fun _ => 0) = false := by rw [← hq]; simpa using hc
            exact boolEq (by unfold linB; rw [all8_no (i := i) (by omega) (by simp [imageB, hc]; intro; omega)])
          · have hc : allEq 8 (partF F 8 i) (fun _ => 0) = true := by rw [← hq]; simpa using hc
            exact step (by simp [imageB, hv, hc]) _ _ rfl rfl rfl rfl (And.intro (And.intro (rowEq fun _ _ => rfl) rfl) trivial)
        · have hb := of_decide_eq_false hb
          exact step (by simp [imageB, hv]; left; omega) _ _ rfl rfl rfl rfl (And.intro (And.intro (rowEq fun _ _ => rfl) rfl) trivial)
    · have hge := of_decide_eq_false h
      obtain rfl : i = 8 := by omega
      exact boolEq (by unfold linB; rw [all8_yes hall])
end Go.Proofs.YtjanlnngeklhoabGreat

/- Both checks of the form of an algebra. -/
set_option linter.unusedVariables false
set_option linter.unusedSimpArgs false
set_option maxRecDepth 100000
namespace Go.Proofs.YtjanlnngeklhoabGreat
open M

theorem l01Table_s (p n : Int) (T : Nat → Int) (hT : isU8 512 T) : Spec Tryz.prog 73 [.int .i64 p, .int .i64 n, .ints .u8 512 T] [] (Ret (.bool (tabB p n T))) := by
  refine Spec.ret rfl (Spec.of_vc tabOK tabEq Tryz.func73 rfl (by kernel_rfl) rfl rfl ?_)
  refine LoopVC.of (fun i : Nat => i ≤ 8 ∧ ∀ j, j < i → rowB p n T j = true) (fun i => [(0, .int .i64 p), (1, .int .i64 n), (5, .ptr 0 [] 0 0), (7, .int .i64 i)]) (fun _ => [some (.ints .u8 512 T, 512)]) (fun i => 8 - i) 0 ⟨by omega, fun j hj => by omega⟩ ?_ ?_ ?_
  · exact And.intro rfl (And.intro rfl (And.intro rfl (And.intro rfl trivial)))
  · exact And.intro (And.intro (rowEq fun _ _ => rfl) rfl) trivial
  · rintro i ⟨hi, hall⟩
    refine ifVC_split (fun h => ?_) (fun h => ?_)
    · have hlt := of_decide_eq_true h
      have hidx : (i : Int).toNat = i := by omega
      have step : rowB p n T i = true → ∀ (s : Slots) (m : Mem), eqvO (lk s 0) (.int .i64 p) → eqvO (lk s 1) (.int .i64 n) → eqvO (lk s 5) (.ptr 0 [] 0 0) → eqvO (lk s 7) (.int .i64 (IntKind.i64.wrap ((i : Int) + 1))) → memCut m [some (.ints .u8 512 T, 512)] →
          ∃ x' : Nat, (x' ≤ 8 ∧ ∀ j, j < x' → rowB p n T j = true) ∧ 8 - x' < 8 - i ∧ subL [(0, .int .i64 p), (1, .int .i64 n), (5, .ptr 0 [] 0 0), (7, .int .i64 x')] s ∧ memCut m [some (.ints .u8 512 T, 512)] := fun he s m h0 h1 h5 h7 hm =>
        ⟨i + 1, ⟨by omega, fun j hj => by
          by_cases hji : j = i
          · subst hji; exact he
          · exact hall j (by omega)⟩, by omega, ⟨h0, h1, h5, by rw [wrapS (by omega)] at h7; exact h7, trivial⟩, hm⟩
      refine And.intro ⟨by omega, by omega⟩ ?_
      refine And.intro (by omega) ?_
      refine And.intro trivial (Spec.mono (l01Linear_s p n _ (fun j hj => hT _ (by omega))) ?_)
      rintro r m ⟨rfl, rfl⟩
      have he : linB p n n (fun j => T (j + ((i : Int).toNat * 64 + 0))) = linB p n n (partF T 64 i) := by rw [hidx]; rfl
      refine ifVC_split (fun hv => ?_) (fun hv => ?_)
      · have hv : linB p n n (partF T 64 i) = false := by rw [← he]; simpa using hv
        exact boolEq (by unfold tabB; rw [all8_no (i := i) (by omega) (by simp [rowB, hv])])
      · have hv : linB p n n (partF T 64 i) = true := by rw [← he]; simpa using hv
        refine ifVC_split (fun hb => ?_) (fun hb => ?_)
        · have hb := of_decide_eq_true hb
          refine And.intro ⟨by omega, by omega⟩ ?_
          refine And.intro (by omega) ?_
          have hq : allEq 64 (fun j => T (j + ((i : Int).toNat * 64 + 0))) (fun _ => 0) = allEq 64 (partF T 64 i) (fun _ => 0) := by rw [hidx]; rfl
          refine ifVC_split (fun hc => ?_) (fun hc => ?_)
          · have hc : allEq 64 (partF T 64 i) (fun _ => 0) = false := by rw [← hq]; simpa using hc
            exact boolEq (by unfold tabB; rw [all8_no (i := i) (by omega) (by simp [rowB, hc]; intro; omega)])
          · have hc : allEq 64 (partF T 64 i) (fun _ => 0) = true := by rw [← hq]; simpa using hc
            exact step (by simp [rowB, hv, hc]) _ _ rfl rfl rfl rfl (And.intro (And.intro (rowEq fun _ _ => rfl) rfl) trivial)
        · have hb := of_decide_eq_false hb
          exact step (by simp [rowB, hv]; left; omega) _ _ rfl rfl rfl rfl (And.intro (And.intro (rowEq fun _ _ => rfl) rfl) trivial)
    · have hge := of_decide_eq_false h
      obtain rfl : i = 8 := by omega
      exact boolEq (by unfold tabB; rw [all8_yes hall])

theorem linB_congr {p f n : Int} {F G : Nat → Int} (h : ∀ j, j < 64 → F j = G j) : linB p f n F = linB p f n G := by
  have hp : ∀ i, i < 8 → ∀ j, j < 8 → partF F 8 i j = partF G 8 i j := fun i hi j hj => h _ (by omega)
  unfold linB
  rw [Bool.eq_iff_iff, List.all_eq_true, List.all_eq_true]
  constructor <;> intro hh i hi <;> have h1 := hh i hi <;> have hi := List.mem_range.1 hi <;> unfold imageB at *
  · rw [← entriesB_congr (hp i hi), ← allEq_congr (hp i hi) fun _ _ => rfl]; exact h1
  · rw [entriesB_congr (hp i hi), allEq_congr (hp i hi) fun _ _ => rfl]; exact h1

theorem isLinear_s (p f n : Int) (F : Nat → Int) (hfn : fieldB p n = true) (hF : isU8 64 F) : Spec Tryz.prog 61 [.int .i64 p, .int .i64 f, .int .i64 n, .ints .u8 64 F] [] (Ret (.bool (linB p f n F))) := by
  refine Spec.ret rfl (Spec.of_vc tabOK tabEq Tryz.func61 rfl (by kernel_rfl) rfl rfl ?_)
  refine And.intro (by omega) ?_
  refine LoopVC.of (fun i : Nat => i ≤ 8 ∧ ∀ j, j < i → imageB p f n F j = true) (fun i => [(0, .int .i64 p), (1, .int .i64 f), (2, .int .i64 n), (11, .ints .u8 64 F), (12, .int .i64 i)]) (fun _ => [none]) (fun i => 8 - i) 0 ⟨by omega, fun j hj => by omega⟩ ?_ ?_ ?_
  · exact And.intro rfl (And.intro rfl (And.intro rfl (And.intro (rowEq fun _ _ => rfl) (And.intro rfl trivial))))
  · exact trivial
  · rintro i ⟨hi, hall⟩
    refine ifVC_split (fun h => ?_) (fun h => ?_)
    · have hlt := of_decide_eq_true h
      have hidx : (i : Int).toNat = i := by omega
      have step : imageB p f n F i = true → ∀ (s : Slots) (m : Mem), eqvO (lk s 0) (.int .i64 p) → eqvO (lk s 1) (.int .i64 f) → eqvO (lk s 2) (.int .i64 n) → eqvO (lk s 11) (.ints .u8 64 F) → eqvO (lk s 12) (.int .i64 (IntKind.i64.wrap ((i : Int) + 1))) → memCut m [none] →
          ∃ x' : Nat, (x' ≤ 8 ∧ ∀ j, j < x' → imageB p f n F j = true) ∧ 8 - x' < 8 - i ∧ subL [(0, .int .i64 p), (1, .int .i64 f), (2, .int .i64 n), (11, .ints .u8 64 F), (12, .int .i64 x')] s ∧ memCut m [none] := fun he s m h0 h1 h2 h11 h12 hm =>
        ⟨i + 1, ⟨by omega, fun j hj => by
          by_cases hji : j = i
          · subst hji; exact he
          · exact hall j (by omega)⟩, by omega, ⟨h0, h1, h2, h11, by rw [wrapS (by omega)] at h12; exact h12, trivial⟩, hm⟩
      have hvec : ∀ j, j < 8 → updR (fun _ => 0) 0 8 (fun j => F (j + (i : Int).toNat * 8)) (j + 0) = partF F 8 i j := fun j hj => by
        rw [hidx]; simp [updR, hj, partF]
      refine And.intro ⟨by omega, by omega⟩ ?_
      refine And.intro (by omega) ?_
      refine And.intro (by omega) ?_
      refine And.intro trivial (Spec.mono (implIsVector_s p n _ (fun j hj => by rw [hvec j hj]; exact hF _ (by omega))) ?_)
      rintro r m ⟨rfl, rfl⟩
      have he : vectorB p n (fun j => updR (fun _ => 0) 0 8 (fun j => F (j + (i : Int).toNat * 8)) (j + 0)) = entriesB p n (partF F 8 i) := by
        rw [vectorB, hfn, Bool.true_and]; exact entriesB_congr hvec
      refine ifVC_split (fun hv => ?_) (fun hv => ?_)
      · have hv : entriesB p n (partF F 8 i) = false := by rw [← he]; simpa using hv
        exact boolEq (by unfold linB; rw [all8_no (i := i) (by omega) (by simp [imageB, hv])])
      · have hv : entriesB p n (partF F 8 i) = true := by rw [← he]; simpa using hv
        refine ifVC_split (fun hb => ?_) (fun hb => ?_)
        · have hb := of_decide_eq_true hb
          refine And.intro (by omega) ?_
          have hq : allEq 8 (fun j => updR (fun _ => 0) 0 8 (fun j => F (j + (i : Int).toNat * 8)) (j + 0)) (fun _ => 0) = allEq 8 (partF F 8 i) (fun _ => 0) := allEq_congr hvec fun _ _ => rfl
          refine ifVC_split (fun hc => ?_) (fun hc => ?_)
          · have hc : allEq 8 (partF F 8 i) (fun _ => 0) = false := by rw [← hq]; simpa using hc
            exact boolEq (by unfold linB; rw [all8_no (i := i) (by omega) (by simp [imageB, hc]; intro; omega)])
          · have hc : allEq 8 (partF F 8 i) (fun _ => 0) = true := by rw [← hq]; simpa using hc
            exact step (by simp [imageB, hv, hc]) _ _ rfl rfl rfl (rowEq fun _ _ => rfl) rfl trivial
        · have hb := of_decide_eq_false hb
          exact step (by simp [imageB, hv]; left; omega) _ _ rfl rfl rfl (rowEq fun _ _ => rfl) rfl trivial
    · have hge := of_decide_eq_false h
      obtain rfl : i = 8 := by omega
      exact boolEq (by unfold linB; rw [all8_yes hall])

/-- where there are no vectors for p and n -/
theorem isLinearNo_s (p f n : Int) (F : Nat → Int) (hfn : fieldB p n = false) (hF : isU8 64 F) : Spec Tryz.prog 61 [.int .i64 p, .int .i64 f, .int .i64 n, .ints .u8 64 F] [] (Ret (.bool false)) := by
  refine Spec.ret rfl (Spec.of_vc tabOK tabEq Tryz.func61 rfl (by kernel_rfl) rfl rfl ?_)
  refine And.intro (by omega) ?_
  refine LoopVC.of (fun i : Nat => i = 0) (fun i => [(0, .int .i64 p), (1, .int .i64 f), (2, .int .i64 n), (11, .ints .u8 64 F), (12, .int .i64 i)]) (fun _ => [none]) (fun i => 8 - i) 0 rfl ?_ ?_ ?_
  · exact And.intro rfl (And.intro rfl (And.intro rfl (And.intro (rowEq fun _ _ => rfl) (And.intro rfl trivial))))
  · exact trivial
  · intro i hi0
    refine ifVC_split (fun h => ?_) (fun h => ?_)
    · refine And.intro ⟨by omega, by omega⟩ ?_
      refine And.intro (by omega) ?_
      refine And.intro (by omega) ?_
      refine And.intro trivial (Spec.mono (implIsVector_s p n _ (fun j hj => ?_)) ?_)
      · show 0 ≤ updR (fun _ => 0) 0 8 (fun j => F (j + (i : Int).toNat * 8)) (j + 0) ∧ updR (fun _ => 0) 0 8 (fun j => F (j + (i : Int).toNat * 8)) (j + 0) < 256
        simp only [updR, Nat.add_zero]
        rw [if_pos (by omega)]
        exact hF _ (by omega)
      rintro r m ⟨rfl, rfl⟩
      refine ifVC_split (fun hv => ?_) (fun hv => ?_)
      · rfl
      · exfalso
        have hv : vectorB p n (fun j => updR (fun _ => 0) 0 8 (fun j => F (j + (i : Int).toNat * 8)) (j + 0)) = true := by simpa using hv
        unfold vectorB at hv
        rw [hfn] at hv
        simp at hv
    · have hge := of_decide_eq_false h
      omega

/-- the row i of a table of c linear maps -/
def rowCB (p c n : Int) (T : Nat → Int) (i : Nat) : Bool := linB p n n (partF T 64 i) && (decide ((i : Int) < c) || allEq 64 (partF T 64 i) fun _ => 0)
def tabCB (p c n : Int) (T : Nat → Int) : Bool := (List.range 8).all (rowCB p c n T)

theorem isTableC_s (p c n : Int) (T : Nat → Int) (hfn : fieldB p n = true) (hT : isU8 512 T) : Spec Tryz.prog 37 [.int .i64 p, .int .i64 c, .int .i64 n, .ints .u8 512 T] [] (Ret (.bool (tabCB p c n T))) := by
  refine Spec.ret rfl (Spec.of_vc tabOK tabEq Tryz.func37 rfl (by kernel_rfl) rfl rfl ?_)
  refine And.intro (by omega) ?_
  refine LoopVC.of (fun i : Nat => i ≤ 8 ∧ ∀ j, j < i → rowCB p c n T j = true) (fun i => [(0, .int .i64 p), (1, .int .i64 c), (2, .int .i64 n), (11, .ints .u8 512 T), (12, .int .i64 i)]) (fun _ => [none]) (fun i => 8 - i) 0 ⟨by omega, fun j hj => by omega⟩ ?_ ?_ ?_
  · exact And.intro rfl (And.intro rfl (And.intro rfl (And.intro (rowEq fun _ _ => rfl) (And.intro rfl trivial))))
  · exact trivial
  · rintro i ⟨hi, hall⟩
    refine ifVC_split (fun h => ?_) (fun h => ?_)
    · have hlt := of_decide_eq_true h
      have hidx : (i : Int).toNat = i := by omega
      have step : rowCB p c n T i = true → ∀ (s : Slots) (m : Mem), eqvO (lk s 0) (.int .i64 p) → eqvO (lk s 1) (.int .i64 c) → eqvO (lk s 2) (.int .i64 n) → eqvO (lk s 11) (.ints .u8 512 T) → eqvO (lk s 12) (.int .i64 (IntKind.i64.wrap ((i : Int) + 1))) → memCut m [none] →
          ∃ x' : Nat, (x' ≤ 8 ∧ ∀ j, j < x' → rowCB p c n T j = true) ∧ 8 - x' < 8 - i ∧ subL [(0, .int .i64 p), (1, .int .i64 c), (2, .int .i64 n), (11, .ints .u8 512 T), (12, .int .i64 x')] s ∧ memCut m [none] := fun he s m h0 h1 h2 h11 h12 hm =>
        ⟨i + 1, ⟨by omega, fun j hj => by
          by_cases hji : j = i
          · subst hji; exact he
          · exact hall j (by omega)⟩, by omega, ⟨h0, h1, h2, h11, by rw [wrapS (by omega)] at h12; exact h12, trivial⟩, hm⟩
      have hvec : ∀ j, j < 64 → updR (fun _ => 0) 0 64 (fun j => T (j + (i : Int).toNat * 64)) (j + 0) = partF T 64 i j := fun j hj => by
        rw [hidx]; simp [updR, hj, partF]
      refine And.intro ⟨by omega, by omega⟩ ?_
      refine And.intro (by omega) ?_
      refine And.intro (by omega) ?_
      refine And.intro trivial (Spec.mono (isLinear_s p n n _ hfn (fun j hj => by rw [hvec j hj]; exact hT _ (by omega))) ?_)
      rintro r m ⟨rfl, rfl⟩
      have he : linB p n n (fun j => updR (fun _ => 0) 0 64 (fun j => T (j + (i : Int).toNat * 64)) (j + 0)) = linB p n n (partF T 64 i) := linB_congr hvec
      refine ifVC_split (fun hv => ?_) (fun hv => ?_)
      · have hv : linB p n n (partF T 64 i) = false := by rw [← he]; simpa using hv
        exact boolEq (by unfold tabCB; rw [all8_no (i := i) (by omega) (by simp [rowCB, hv])])
      · have hv : linB p n n (partF T 64 i) = true := by rw [← he]; simpa using hv
        refine ifVC_split (fun hb => ?_) (fun hb => ?_)
        · have hb := of_decide_eq_true hb
          refine And.intro (by omega) ?_
          have hq : allEq 64 (fun j => updR (fun _ => 0) 0 64 (fun j => T (j + (i : Int).toNat * 64)) (j + 0)) (fun _ => 0) = allEq 64 (partF T 64 i) (fun _ => 0) := allEq_congr hvec fun _ _ => rfl
          refine ifVC_split (fun hc => ?_) (fun hc => ?_)
          · have hc : allEq 64 (partF T 64 i) (fun _ => 0) = false := by rw [← hq]; simpa using hc
            exact boolEq (by unfold tabCB; rw [all8_no (i := i) (by omega) (by simp [rowCB, hc]; intro; omega)])
          · have hc : allEq 64 (partF T 64 i) (fun _ => 0) = true := by rw [← hq]; simpa using hc
            exact step (by simp [rowCB, hv, hc]) _ _ rfl rfl rfl (rowEq fun _ _ => rfl) rfl trivial
        · have hb := of_decide_eq_false hb
          exact step (by simp [rowCB, hv]; left; omega) _ _ rfl rfl rfl (rowEq fun _ _ => rfl) rfl trivial
    · have hge := of_decide_eq_false h
      obtain rfl : i = 8 := by omega
      exact boolEq (by unfold tabCB; rw [all8_yes hall])

theorem isTable_s (p n : Int) (T : Nat → Int) (hfn : fieldB p n = true) (hT : isU8 512 T) : Spec Tryz.prog 37 [.int .i64 p, .int .i64 n, .int .i64 n, .ints .u8 512 T] [] (Ret (.bool (tabB p n T))) := isTableC_s p n n T hfn hT
theorem isTableNo_s (p c n : Int) (T : Nat → Int) (hfn : fieldB p n = false) (hT : isU8 512 T) : Spec Tryz.prog 37 [.int .i64 p, .int .i64 c, .int .i64 n, .ints .u8 512 T] [] (Ret (.bool false)) := by
  refine Spec.ret rfl (Spec.of_vc tabOK tabEq Tryz.func37 rfl (by kernel_rfl) rfl rfl ?_)
  refine And.intro (by omega) ?_
  refine LoopVC.of (fun i : Nat => i = 0) (fun i => [(0, .int .i64 p), (1, .int .i64 c), (2, .int .i64 n), (11, .ints .u8 512 T), (12, .int .i64 i)]) (fun _ => [none]) (fun i => 8 - i) 0 rfl ?_ ?_ ?_
  · exact And.intro rfl (And.intro rfl (And.intro rfl (And.intro (rowEq fun _ _ => rfl) (And.intro rfl trivial))))
  · exact trivial
  · intro i hi0
    refine ifVC_split (fun h => ?_) (fun h => ?_)
    · refine And.intro ⟨by omega, by omega⟩ ?_
      refine And.intro (by omega) ?_
      refine And.intro (by omega) ?_
      refine And.intro trivial (Spec.mono (isLinearNo_s p n n _ hfn (fun j hj => ?_)) ?_)
      · show 0 ≤ updR (fun _ => 0) 0 64 (fun j => T (j + (i : Int).toNat * 64)) (j + 0) ∧ updR (fun _ => 0) 0 64 (fun j => T (j + (i : Int).toNat * 64)) (j + 0) < 256
        simp only [updR, Nat.add_zero]
        rw [if_pos (by omega)]
        exact hT _ (by omega)
      rintro r m ⟨rfl, rfl⟩
      exact rfl
    · have hge := of_decide_eq_false h
      omega

/-- the form of an algebra -/
def shapeB (p n : Int) (U T : Nat → Int) : Bool := vectorB p n U && tabB p n T

theorem isShaped_s (p n : Int) (U T : Nat → Int) (hU : isU8 8 U) (hT : isU8 512 T) : Spec Tryz.prog 76 [algV p n U T] [] (Ret (.bool (shapeB p n U T))) := by
  refine Spec.ret rfl (Spec.of_vc tabOK tabEq Tryz.func76 rfl (by kernel_rfl) rfl rfl ?_)
  refine And.intro (by omega) ?_
  refine And.intro trivial (Spec.mono (implIsVector_s p n _ (fun j hj => hU _ (by omega))) ?_)
  rintro r m ⟨rfl, rfl⟩
  have e : vectorB p n (fun j => U (j + 0)) = vectorB p n U := rfl
  refine ifVC_split (fun hv => ?_) (fun hv => ?_)
  · have hv : vectorB p n U = true := hv
    have hfn : fieldB p n = true := by unfold vectorB at hv; simp at hv; exact hv.1
    refine And.intro (by omega) ?_
    refine And.intro trivial (Spec.mono (isTable_s p n _ hfn (fun j hj => hT _ (by omega))) ?_)
    rintro r m ⟨rfl, rfl⟩
    exact boolEq (by simp [shapeB, hv])
  · have hv : vectorB p n U = false := hv
    exact boolEq (by simp [shapeB, hv])

theorem l01Shape_s (p n : Int) (U T : Nat → Int) (hU : isU8 8 U) (hT : isU8 512 T) : Spec Tryz.prog 71 [algV p n U T] [] (Ret (.bool (shapeB p n U T))) := by
  refine Spec.ret rfl (Spec.of_vc tabOK tabEq Tryz.func71 rfl (by kernel_rfl) rfl rfl ?_)
  refine And.intro trivial (Spec.mono (l01Sizes_s p n) ?_)
  rintro r m ⟨rfl, rfl⟩
  refine ifVC_split (fun hv => ?_) (fun hv => ?_)
  · refine And.intro (by omega) ?_
    refine And.intro trivial (Spec.mono (l01Vector_s p n _ (fun j hj => hU _ (by omega))) ?_)
    rintro r m ⟨rfl, rfl⟩
    refine ifVC_split (fun hw => ?_) (fun hw => ?_)
    · have hw : entriesB p n U = true := hw
      refine And.intro (by omega) ?_
      refine And.intro trivial (Spec.mono (l01Table_s p n _ (fun j hj => hT _ (by omega))) ?_)
      rintro r m ⟨rfl, rfl⟩
      exact boolEq (by simp [shapeB, vectorB, hv, hw])
    · have hw : entriesB p n U = false := hw
      exact boolEq (by simp [shapeB, vectorB, hv, hw])
  · exact boolEq (by simp [shapeB, vectorB, hv])
end Go.Proofs.YtjanlnngeklhoabGreat

/- Associativity and the unit, as both sides reckon them. -/
set_option linter.unusedVariables false
set_option linter.unusedSimpArgs false
set_option maxRecDepth 100000
namespace Go.Proofs.YtjanlnngeklhoabGreat
open M

theorem field_bounds {p n : Int} (h : fieldB p n = true) : (0 < p ∧ p < 256) ∧ 1 ≤ n ∧ n ≤ 8 := by
  unfold fieldB at h
  simp only [Bool.and_eq_true, decide_eq_true_eq] at h
  obtain ⟨h1, h2⟩ := h
  refine ⟨?_, h2⟩
  by_cases hp : p < 2
  · rw [primeB_out (.inl hp)] at h1; cases h1
  · by_cases hp' : 31 < p
    · rw [primeB_out (.inr hp')] at h1; cases h1
    · omega

/-- the product of the basis elements i and j -/
def vecT (T : Nat → Int) (i j : Nat) : Nat → Int := fun m => T (m + (j * 8 + i * 64))

structure Valid (p : Int) (n : Nat) (U T : Nat → Int) : Prop where
  hp : 0 < p ∧ p < 256
  hn : n ≤ 8
  lt : ∀ i j m, i < 8 → j < 8 → m < 8 → 0 ≤ vecT T i j m ∧ vecT T i j m < p
  zero : ∀ i j m, i < 8 → j < 8 → m < 8 → (n ≤ i ∨ n ≤ j ∨ n ≤ m) → vecT T i j m = 0
  uzero : ∀ i, i < 8 → n ≤ i → U i = 0
  ult : ∀ i, i < 8 → 0 ≤ U i ∧ U i < p

theorem entries_get {p n : Int} {v : Nat → Int} (h : entriesB p n v = true) {i : Nat} (hi : i < 8) : v i < p ∧ (n ≤ i → v i = 0) := by
  have := List.all_eq_true.1 h i (List.mem_range.2 hi)
  simp only [entryB, Bool.and_eq_true, Bool.or_eq_true, decide_eq_true_eq, beq_iff_eq] at this
  refine ⟨this.1, fun hn => ?_⟩
  rcases this.2 with h | h
  · omega
  · exact h
theorem allEq_get {n : Nat} {v w : Nat → Int} (h : allEq n v w = true) {i : Nat} (hi : i < n) : v i = w i := by
  have := List.all_eq_true.1 h i (List.mem_range.2 hi)
  simpa using this

theorem valid_of {p : Int} {n : Nat} {U T : Nat → Int} (hU : isU8 8 U) (hT : isU8 512 T) (h : shapeB p n U T = true) : Valid p n U T := by
  unfold shapeB vectorB at h
  simp only [Bool.and_eq_true] at h
  obtain ⟨⟨hf, he⟩, ht⟩ := h
  obtain ⟨hp, hn1, hn8⟩ := field_bounds hf
  have row : ∀ i, i < 8 → linB p n n (partF T 64 i) = true ∧ (n ≤ i → ∀ q, q < 64 → T (q + i * 64) = 0) := fun i hi => by
    have := List.all_eq_true.1 ht i (List.mem_range.2 hi)
    simp only [rowB, Bool.and_eq_true, Bool.or_eq_true, decide_eq_true_eq] at this
    refine ⟨this.1, fun hni q hq => ?_⟩
    rcases this.2 with h | h
    · omega
    · exact allEq_get h hq
  have image : ∀ i j, i < 8 → j < 8 → entriesB p n (partF (partF T 64 i) 8 j) = true ∧ (n ≤ j → ∀ q, q < 8 → T (q + j * 8 + i * 64) = 0) := fun i j hi hj => by
    have := List.all_eq_true.1 (row i hi).1 j (List.mem_range.2 hj)
    simp only [imageB, Bool.and_eq_true, Bool.or_eq_true, decide_eq_true_eq] at this
    refine ⟨this.1, fun hnj q hq => ?_⟩
    rcases this.2 with h | h
    · omega
    · exact allEq_get h hq
  have eq : ∀ i j m, vecT T i j m = partF (partF T 64 i) 8 j m := fun i j m => by unfold vecT partF; rw [Nat.add_assoc]
  refine ⟨hp, by omega, fun i j m hi hj hm => ⟨(hT _ (by omega)).1, ?_⟩, fun i j m hi hj hm hz => ?_, fun i hi hni => (entries_get he hi).2 (by omega), fun i hi => ⟨(hU i hi).1, (entries_get he hi).1⟩⟩
  · rw [eq]; exact (entries_get (image i j hi hj).1 hm).1
  · rcases hz with hz | hz | hz
    · have := (row i hi).2 hz (m + j * 8) (by omega)
      unfold vecT; rw [← Nat.add_assoc]; exact this
    · have := (image i j hi hj).2 hz m hm
      unfold vecT; rw [← Nat.add_assoc]; exact this
    · rw [eq]; exact (entries_get (image i j hi hj).1 hm).2 (by omega)

theorem linS_congr {F G v v' : Nat → Int} {j : Nat} : ∀ k : Nat, (∀ i, i < k → v i * F (i * 8 + j) = v' i * G (i * 8 + j)) → linS F v k j = linS G v' k j
  | 0, _ => rfl
  | k + 1, h => by
    show linS F v k j + v k * F (k * 8 + j) = linS G v' k j + v' k * G (k * 8 + j)
    rw [linS_congr k fun i hi => h i (by omega), h k (by omega)]
theorem linS_cut {F v : Nat → Int} {n j : Nat} : ∀ k : Nat, n ≤ k → (∀ i, n ≤ i → i < k → v i = 0) → linS F v k j = linS F v n j
  | 0, h, _ => by obtain rfl : n = 0 := by omega
                  rfl
  | k + 1, h, hz => by
    rcases Nat.lt_or_ge n (k + 1) with h' | h'
    · show linS F v k j + v k * F (k * 8 + j) = _
      rw [linS_cut k (by omega) fun i h1 h2 => hz i h1 (by omega), hz k (by omega) (by omega)]
      simp
    · obtain rfl : n = k + 1 := by omega
      rfl
theorem linS_unit (F : Nat → Int) (k j : Nat) : ∀ n : Nat, linS F (unitV k) n j = if k < n then F (k * 8 + j) else 0
  | 0 => by simp [linS]
  | n + 1 => by
    show linS F (unitV k) n j + unitV k n * F (n * 8 + j) = _
    rw [linS_unit F k j n]
    by_cases h1 : k < n
    · rw [if_pos h1, if_pos (by omega), show unitV k n = 0 by unfold unitV; rw [if_neg (by omega)]]; simp
    · rw [if_neg h1]
      by_cases h2 : k = n
      · subst h2; rw [if_pos (by omega), show unitV k k = 1 by unfold unitV; rw [if_pos rfl]]; simp
      · rw [if_neg (by omega), show unitV k n = 0 by unfold unitV; rw [if_neg (fun e => h2 e.symm)]]; simp

/-- the product from the right with the basis element k, and from the left with i -/
def rightF (p : Int) (T v : Nat → Int) (k : Nat) : Nat → Int := fun m => linS (rowT (flipF T) k) v 8 m % p
def leftF (p : Int) (T : Nat → Int) (i : Nat) (v : Nat → Int) : Nat → Int := fun m => linS (rowT T i) v 8 m % p

theorem times_unit {p : Int} {n : Nat} {U T v : Nat → Int} (hV : Valid p n U T) (hv : ∀ i, n ≤ i → i < 8 → v i = 0) {k m : Nat} (hk : k < n) (hm : m < 8) : timS p n T v (unitV k) n m % p = rightF p T v k m := by
  have hn := hV.hn
  have key : ∀ a, a ≤ 8 → timS p n T v (unitV k) a m = linS (rowT (flipF T) k) v a m := by
    intro a
    induction a with
    | zero => intro _; rfl
    | succ a ih =>
      intro ha
      show timS p n T v (unitV k) a m + v a * (linS (rowT T a) (unitV k) n m % p) = linS (rowT (flipF T) k) v a m + v a * rowT (flipF T) k (a * 8 + m)
      rw [ih (by omega), linS_unit, if_pos hk]
      have e1 : rowT T a (k * 8 + m) = vecT T a k m := by unfold rowT vecT; congr 1; omega
      have e2 : rowT (flipF T) k (a * 8 + m) = vecT T a k m := by unfold rowT flipF vecT; congr 1; omega
      have := hV.lt a k m (by omega) (by omega) hm
      rw [e1, e2, Int.emod_eq_of_lt this.1 this.2]
  unfold rightF
  rw [key n hn, linS_cut 8 hn hv]

theorem unit_times {p : Int} {n : Nat} {U T v : Nat → Int} (hV : Valid p n U T) (hv : ∀ i, n ≤ i → i < 8 → v i = 0) {i m : Nat} (hi : i < n) (hm : m < 8) : timS p n T (unitV i) v n m % p = leftF p T i v m := by
  have hn := hV.hn
  have key : ∀ a, timS p n T (unitV i) v a m = if i < a then linS (rowT T i) v n m % p else 0 := by
    intro a
    induction a with
    | zero => simp [timS]
    | succ a ih =>
      show timS p n T (unitV i) v a m + unitV i a * (linS (rowT T a) v n m % p) = _
      rw [ih]
      by_cases h1 : i < a
      · rw [if_pos h1, if_pos (by omega), show unitV i a = 0 by unfold unitV; rw [if_neg (by omega)]]; simp
      · rw [if_neg h1]
        by_cases h2 : i = a
        · subst h2; rw [if_pos (by omega), show unitV i i = 1 by unfold unitV; rw [if_pos rfl]]; simp
        · rw [if_neg (by omega), show unitV i a = 0 by unfold unitV; rw [if_neg (fun e => h2 e.symm)]]; simp
  unfold leftF
  rw [key, if_pos hi, Int.emod_emod, linS_cut 8 hn hv]

/-- whether i, j, k are no fault -/
def okF (p : Int) (T : Nat → Int) (i j k : Nat) : Bool := allEq 8 (rightF p T (vecT T i j) k) (leftF p T i (vecT T j k))
def assB (p : Int) (n : Nat) (T : Nat → Int) : Prop := ∀ i j k, i < n → j < n → k < n → okF p T i j k = true
def unitOk (p : Int) (U T : Nat → Int) (i : Nat) : Bool := allEq 8 (rightF p T U i) (unitV i) && allEq 8 (leftF p T i U) (unitV i)
end Go.Proofs.YtjanlnngeklhoabGreat

/- The program's search for a fault, its check of the unit, and of algebras. -/
set_option linter.unusedVariables false
set_option linter.unusedSimpArgs false
set_option maxRecDepth 100000
namespace Go.Proofs.YtjanlnngeklhoabGreat
open M

theorem algR (p n : Int) (U T : Nat → Int) : SV.eqv (algV p n U T) (algV p n U T) := And.intro rfl (And.intro rfl (And.intro (rowEq fun _ _ => rfl) (And.intro (rowEq fun _ _ => rfl) rfl)))

/-- the triple that is told -/
def faultAt (p : Int) (n : Nat) (T : Nat → Int) (g : Nat → Int) : Prop :=
  ∃ i j k : Nat, i < n ∧ j < n ∧ k < n ∧ okF p T i j k = false ∧ (∀ i' j' k', i' < n → j' < n → k' < n → (i' < i ∨ (i' = i ∧ j' < j) ∨ (i' = i ∧ j' = j ∧ k' < k)) → okF p T i' j' k' = true) ∧ g 0 = i ∧ g 1 = j ∧ g 2 = k
def FaultQ (p : Int) (n : Nat) (T : Nat → Int) (r : SV) (m : Mem) : Prop :=
  (assB p n T ∧ r = .nilsl) ∨ ∃ id g, faultAt p n T g ∧ r = .sl id 0 3 3 ∧ blockOf m id = some (.ints .i64 3 g, 3)

theorem FaultQ.yes {p : Int} {n : Nat} {T : Nat → Int} {m : Mem} (h : assB p n T) : FaultQ p n T .nilsl m := .inl ⟨h, rfl⟩
theorem FaultQ.no {p : Int} {n : Nat} {T g : Nat → Int} {m : Mem} {id : Nat} (h : faultAt p n T g) (hb : blockOf m id = some (.ints .i64 3 g, 3)) : FaultQ p n T (.sl id 0 3 3) m := .inr ⟨id, g, h, rfl, hb⟩

theorem faultIn_s (p : Int) (n : Nat) (U T : Nat → Int) (hV : Valid p n U T) (hU : isU8 8 U) (hT : isU8 512 T) :
    Spec Tryz.prog 101 [algV p n U T] [] (FaultQ p n T) := by
  have hn := hV.hn
  refine Spec.of_vc tabOK tabEq Tryz.func101 rfl (by kernel_rfl) rfl rfl ?_
  refine And.intro (by omega) ?_
  refine And.intro trivial (Spec.mono (flipTable_s _) ?_)
  rintro r m ⟨rfl, rfl⟩
  refine And.intro (by omega) ?_
  refine LoopVC.of (fun i : Nat => i ≤ n ∧ ∀ i' j' k', i' < i → j' < n → k' < n → okF p T i' j' k' = true) (fun i => [(1, .ptr 0 [] 0 0), (3, .ptr 1 [] 0 0), (12, .int .i64 n), (13, .int .i64 i)])
    (fun _ => [some (algV p n U T, 522), some (.ints .u8 512 (flipF T), 512)]) (fun i => n - i) 0 ⟨by omega, fun i' j' k' h => by omega⟩ ?_ ?_ ?_
  · exact And.intro rfl (And.intro rfl (And.intro rfl (And.intro rfl trivial)))
  · exact And.intro (And.intro (algR p n U T) rfl) (And.intro (And.intro (rowEq fun q hq => by show updR _ 0 512 _ q = _; simp [updR, hq]) rfl) trivial)
  · rintro i ⟨hi, halli⟩
    refine ifVC_split (fun h => ?_) (fun h => ?_)
    · have hlti := of_decide_eq_true h
      refine LoopVC.of (fun j : Nat => j ≤ n ∧ ∀ j' k', j' < j → k' < n → okF p T i j' k' = true) (fun j => [(1, .ptr 0 [] 0 0), (3, .ptr 1 [] 0 0), (4, .int .i64 i), (12, .int .i64 n), (13, .int .i64 i), (17, .int .i64 n), (18, .int .i64 j)])
        (fun _ => [some (algV p n U T, 522), some (.ints .u8 512 (flipF T), 512)]) (fun j => n - j) 0 ⟨by omega, fun j' k' h => by omega⟩ ?_ ?_ ?_
      · exact And.intro rfl (And.intro rfl (And.intro rfl (And.intro rfl (And.intro rfl (And.intro rfl (And.intro rfl trivial))))))
      · exact And.intro (And.intro (algR p n U T) rfl) (And.intro (And.intro (rowEq fun _ _ => rfl) rfl) trivial)
      · rintro j ⟨hj, hallj⟩
        refine ifVC_split (fun h => ?_) (fun h => ?_)
        · have hltj := of_decide_eq_true h
          refine LoopVC.of (fun k : Nat => k ≤ n ∧ ∀ k', k' < k → okF p T i j k' = true) (fun k => [(1, .ptr 0 [] 0 0), (3, .ptr 1 [] 0 0), (4, .int .i64 i), (5, .int .i64 j), (12, .int .i64 n), (13, .int .i64 i), (17, .int .i64 n), (18, .int .i64 j), (22, .int .i64 n), (23, .int .i64 k)])
            (fun _ => [some (algV p n U T, 522), some (.ints .u8 512 (flipF T), 512)]) (fun k => n - k) 0 ⟨by omega, fun k' h => by omega⟩ ?_ ?_ ?_
          · exact And.intro rfl (And.intro rfl (And.intro rfl (And.intro rfl (And.intro rfl (And.intro rfl (And.intro rfl (And.intro rfl (And.intro rfl (And.intro rfl trivial)))))))))
          · exact And.intro (And.intro (algR p n U T) rfl) (And.intro (And.intro (rowEq fun _ _ => rfl) rfl) trivial)
          · rintro k ⟨hk, hallk⟩
            refine ifVC_split (fun h => ?_) (fun h => ?_)
            · have hltk := of_decide_eq_true h
              refine Exists.intro 13 (And.intro (by kernel_rfl) ?_)
              refine And.intro ⟨by omega, by omega⟩ ?_
              refine And.intro (by omega) ?_
              refine And.intro ⟨by omega, by omega⟩ ?_
              refine And.intro ⟨by omega, by omega⟩ ?_
              refine And.intro (by omega) ?_
              refine Exists.intro (.ints .u8 8 (rightF p T (vecT T i j) k)) (And.intro (And.intro rfl (And.intro rfl ?_)) ?_)
              · refine Spec.mono (apply_s p _ _ hV.hp (fun q hq => hT _ (by omega)) (fun q hq => hT _ (by omega))) ?_
                rintro r m ⟨rfl, _⟩
                simp only [Int.toNat_natCast]
                rfl
              refine And.intro (by omega) ?_
              refine Exists.intro 14 (And.intro (by kernel_rfl) ?_)
              refine And.intro (by omega) ?_
              refine And.intro ⟨by omega, by omega⟩ ?_
              refine And.intro (by omega) ?_
              refine And.intro ⟨by omega, by omega⟩ ?_
              refine And.intro ⟨by omega, by omega⟩ ?_
              refine And.intro (by omega) ?_
              refine Exists.intro (.ints .u8 8 (leftF p T i (vecT T j k))) (And.intro (And.intro rfl (And.intro rfl ?_)) ?_)
              · refine Spec.mono (apply_s p _ _ hV.hp (fun q hq => hT _ (by omega)) (fun q hq => hT _ (by omega))) ?_
                rintro r m ⟨rfl, _⟩
                simp only [Int.toNat_natCast]
                rfl
              have hval : allEq 8 (fun q => updR (fun _ => 0) 0 8 (rightF p T (vecT T i j) k) (q + 0)) (leftF p T i (vecT T j k)) = okF p T i j k :=
                allEq_congr (fun q hq => by simp [updR, hq]) fun _ _ => rfl
              refine ifVC_split (fun hc => ?_) (fun hc => ?_)
              · have hc : okF p T i j k = false := by rw [← hval]; simpa using hc
                refine FaultQ.no (g := upd1 (upd1 (upd1 (fun _ => 0) 0 i) 1 j) 2 k) ?_ ?_
                rotate_left
                · exact rfl
                refine ⟨i, j, k, by omega, by omega, by omega, hc, fun i' j' k' h1 h2 h3 h4 => ?_, rfl, rfl, rfl⟩
                rcases h4 with h4 | ⟨rfl, h4⟩ | ⟨rfl, rfl, h4⟩
                · exact halli i' j' k' h4 h2 h3
                · exact hallj j' k' h4 h3
                · exact hallk k' h4
              · have hc : okF p T i j k = true := by rw [← hval]; simpa using hc
                refine Exists.intro (k + 1) (And.intro ⟨by omega, fun k' hk' => ?_⟩ (And.intro (by omega) (And.intro ?_ ?_)))
                · by_cases hkk : k' = k
                  · subst hkk; exact hc
                  · exact hallk k' (by omega)
                · exact And.intro rfl (And.intro rfl (And.intro rfl (And.intro rfl (And.intro rfl (And.intro rfl (And.intro rfl (And.intro rfl (And.intro rfl (And.intro (slotI (wrapS (by omega))) trivial)))))))))
                · exact And.intro (And.intro (algR p n U T) rfl) (And.intro (And.intro (rowEq fun _ _ => rfl) rfl) trivial)
            · have hge := of_decide_eq_false h
              refine Exists.intro (j + 1) (And.intro ⟨by omega, fun j' k' hj' hk' => ?_⟩ (And.intro (by omega) (And.intro ?_ ?_)))
              · by_cases hjj : j' = j
                · subst hjj; exact hallk k' (by omega)
                · exact hallj j' k' (by omega) hk'
              · exact And.intro rfl (And.intro rfl (And.intro rfl (And.intro rfl (And.intro rfl (And.intro rfl (And.intro (slotI (wrapS (by omega))) trivial))))))
              · exact And.intro (And.intro (algR p n U T) rfl) (And.intro (And.intro (rowEq fun _ _ => rfl) rfl) trivial)
        · have hge := of_decide_eq_false h
          refine Exists.intro (i + 1) (And.intro ⟨by omega, fun i' j' k' hi' hj' hk' => ?_⟩ (And.intro (by omega) (And.intro ?_ ?_)))
          · by_cases hii : i' = i
            · subst hii; exact hallj j' k' (by omega) hk'
            · exact halli i' j' k' (by omega) hj' hk'
          · exact And.intro rfl (And.intro rfl (And.intro rfl (And.intro (slotI (wrapS (by omega))) trivial)))
          · exact And.intro (And.intro (algR p n U T) rfl) (And.intro (And.intro (rowEq fun _ _ => rfl) rfl) trivial)
    · have hge := of_decide_eq_false h
      exact FaultQ.yes fun i' j' k' h1 h2 h3 => halli i' j' k' (by omega) h2 h3

def unitB (p : Int) (n : Nat) (U T : Nat → Int) : Bool := (List.range n).all (unitOk p U T)
theorem unitB_no {p : Int} {n : Nat} {U T : Nat → Int} {i : Nat} (hi : i < n) (h : unitOk p U T i = false) : unitB p n U T = false := by
  cases hb : unitB p n U T with
  | false => rfl
  | true => have := List.all_eq_true.1 hb i (List.mem_range.2 hi); rw [h] at this; cases this
theorem unitB_yes {p : Int} {n : Nat} {U T : Nat → Int} (h : ∀ i, i < n → unitOk p U T i = true) : unitB p n U T = true := List.all_eq_true.2 fun i hi => h i (List.mem_range.1 hi)

theorem hasUnit_s (p : Int) (n : Nat) (U T : Nat → Int) (hV : Valid p n U T) (hU : isU8 8 U) (hT : isU8 512 T) :
    Spec Tryz.prog 102 [algV p n U T] [] (Ret (.bool (unitB p n U T))) := by
  have hn := hV.hn
  refine Spec.ret rfl (Spec.of_vc tabOK tabEq Tryz.func102 rfl (by kernel_rfl) rfl rfl ?_)
  refine And.intro (by omega) ?_
  refine And.intro trivial (Spec.mono (flipTable_s _) ?_)
  rintro r m ⟨rfl, rfl⟩
  refine And.intro (by omega) ?_
  refine LoopVC.of (fun i : Nat => i ≤ n ∧ ∀ i', i' < i → unitOk p U T i' = true) (fun i => [(1, .ptr 0 [] 0 0), (3, .ptr 1 [] 0 0), (10, .int .i64 n), (11, .int .i64 i)])
    (fun _ => [some (algV p n U T, 522), some (.ints .u8 512 (flipF T), 512)]) (fun i => n - i) 0 ⟨by omega, fun i' h => by omega⟩ ?_ ?_ ?_
  · exact And.intro rfl (And.intro rfl (And.intro rfl (And.intro rfl trivial)))
  · exact And.intro (And.intro (algR p n U T) rfl) (And.intro (And.intro (rowEq fun q hq => by show updR _ 0 512 _ q = _; simp [updR, hq]) rfl) trivial)
  · rintro i ⟨hi, hall⟩
    refine ifVC_split (fun h => ?_) (fun h => ?_)
    · have hlt := of_decide_eq_true h
      refine And.intro trivial (Spec.mono (basisVector_s i (by omega)) ?_)
      rintro r m ⟨rfl, rfl⟩
      refine And.intro (by omega) ?_
      refine Exists.intro 21 (And.intro (by kernel_rfl) ?_)
      refine And.intro ⟨by omega, by omega⟩ ?_
      refine And.intro (by omega) ?_
      refine And.intro (by omega) ?_
      refine Exists.intro (.ints .u8 8 (rightF p T U i)) (And.intro (And.intro rfl (And.intro rfl ?_)) ?_)
      · refine Spec.mono (apply_s p _ _ hV.hp (fun q hq => hT _ (by omega)) (fun q hq => hU _ (by omega))) ?_
        rintro r m ⟨rfl, _⟩
        simp only [Int.toNat_natCast]
        rfl
      refine And.intro (by omega) ?_
      have hval : allEq 8 (rightF p T U i) (fun q => updR (fun _ => 0) 0 8 (unitV (i : Int).toNat) (q + 0)) = allEq 8 (rightF p T U i) (unitV i) :=
        allEq_congr (fun _ _ => rfl) fun q hq => by simp [updR, hq]
      refine ifVC_split (fun hc => ?_) (fun hc => ?_)
      · have hc : allEq 8 (rightF p T U i) (unitV i) = false := by rw [← hval]; simpa using hc
        exact boolEq (by rw [unitB_no (i := i) (by omega) (by simp [unitOk, hc])])
      · have hc : allEq 8 (rightF p T U i) (unitV i) = true := by rw [← hval]; simpa using hc
        refine And.intro ⟨by omega, by omega⟩ ?_
        refine And.intro (by omega) ?_
        refine And.intro (by omega) ?_
        refine Exists.intro (.ints .u8 8 (leftF p T i U)) (And.intro (And.intro rfl (And.intro rfl ?_)) ?_)
        · refine Spec.mono (apply_s p _ _ hV.hp (fun q hq => hT _ (by omega)) (fun q hq => hU _ (by omega))) ?_
          rintro r m ⟨rfl, _⟩
          simp only [Int.toNat_natCast]
          rfl
        refine And.intro (by omega) ?_
        have hval2 : allEq 8 (leftF p T i U) (fun q => updR (fun _ => 0) 0 8 (unitV (i : Int).toNat) (q + 0)) = allEq 8 (leftF p T i U) (unitV i) :=
          allEq_congr (fun _ _ => rfl) fun q hq => by simp [updR, hq]
        refine ifVC_split (fun hd => ?_) (fun hd => ?_)
        · have hd : allEq 8 (leftF p T i U) (unitV i) = false := by rw [← hval2]; simpa using hd
          exact boolEq (by rw [unitB_no (i := i) (by omega) (by simp [unitOk, hd])])
        · have hd : allEq 8 (leftF p T i U) (unitV i) = true := by rw [← hval2]; simpa using hd
          refine Exists.intro (i + 1) (And.intro ⟨by omega, fun i' hi' => ?_⟩ (And.intro (by omega) (And.intro ?_ ?_)))
          · by_cases hii : i' = i
            · subst hii; simp [unitOk, hc, hd]
            · exact hall i' (by omega)
          · exact And.intro rfl (And.intro rfl (And.intro rfl (And.intro (slotI (wrapS (by omega))) trivial)))
          · exact And.intro (And.intro (algR p n U T) rfl) (And.intro (And.intro (rowEq fun _ _ => rfl) rfl) trivial)
    · have hge := of_decide_eq_false h
      obtain rfl : i = n := by omega
      exact boolEq (by rw [unitB_yes hall])
end Go.Proofs.YtjanlnngeklhoabGreat

/- Both checks of algebras, and the law on IsAlgebra. -/
set_option linter.unusedVariables false
set_option linter.unusedSimpArgs false
set_option maxRecDepth 100000
namespace Go.Proofs.YtjanlnngeklhoabGreat
open M

def assL (p : Int) (n : Nat) (T : Nat → Int) : Bool := (List.range n).all fun i => (List.range n).all fun j => (List.range n).all fun k => okF p T i j k
theorem assL_yes {p : Int} {n : Nat} {T : Nat → Int} (h : assB p n T) : assL p n T = true :=
  List.all_eq_true.2 fun i hi => List.all_eq_true.2 fun j hj => List.all_eq_true.2 fun k hk => h i j k (List.mem_range.1 hi) (List.mem_range.1 hj) (List.mem_range.1 hk)
theorem assL_no {p : Int} {n : Nat} {T g : Nat → Int} (h : faultAt p n T g) : assL p n T = false := by
  obtain ⟨i, j, k, hi, hj, hk, hf, _⟩ := h
  cases hb : assL p n T with
  | false => rfl
  | true =>
    have := List.all_eq_true.1 (List.all_eq_true.1 (List.all_eq_true.1 hb i (List.mem_range.2 hi)) j (List.mem_range.2 hj)) k (List.mem_range.2 hk)
    rw [hf] at this; cases this
def algB (p n : Int) (U T : Nat → Int) : Bool := shapeB p n U T && (assL p n.toNat T && unitB p n.toNat U T)

theorem shape_field {p n : Int} {U T : Nat → Int} (h : shapeB p n U T = true) : fieldB p n = true := by
  unfold shapeB vectorB at h; simp only [Bool.and_eq_true] at h; exact h.1.1

theorem isAlgebra_s (p n : Int) (U T : Nat → Int) (hU : isU8 8 U) (hT : isU8 512 T) : Spec Tryz.prog 81 [algV p n U T] [] (Ret (.bool (algB p n U T))) := by
  refine Spec.ret rfl (Spec.of_vc tabOK tabEq Tryz.func81 rfl (by kernel_rfl) rfl rfl ?_)
  refine And.intro trivial (Spec.mono (isShaped_s p n U T hU hT) ?_)
  rintro r m ⟨rfl, rfl⟩
  refine ifVC_split (fun hs => ?_) (fun hs => ?_)
  · obtain ⟨n, rfl⟩ : ∃ k : Nat, n = k := ⟨n.toNat, by have := (field_bounds (shape_field hs)).2; omega⟩
    have hV := valid_of hU hT hs
    refine And.intro trivial (Spec.mono (faultIn_s p n U T hV hU hT) ?_)
    rintro r m (⟨hass, rfl⟩ | ⟨id, g, hf, rfl, hb⟩)
    · refine And.intro trivial (Spec.mono (hasUnit_s p n U T hV hU hT) ?_)
      rintro r m ⟨rfl, rfl⟩
      exact boolEq (by simp [algB, hs, assL_yes hass])
    · exact boolEq (by simp [algB, assL_no hf])
  · exact boolEq (by simp [algB, hs])

def FaultQ2 (p : Int) (n : Nat) (T : Nat → Int) (r : SV) (m : Mem) : Prop :=
  (assB p n T ∧ r = .tcons .nilsl (.tcons (.bool false) .tnil)) ∨ ∃ id g, faultAt p n T g ∧ r = .tcons (.sl id 0 3 3) (.tcons (.bool true) .tnil) ∧ blockOf m id = some (.ints .i64 3 g, 3)
theorem FaultQ2.yes {p : Int} {n : Nat} {T : Nat → Int} {m : Mem} (h : assB p n T) : FaultQ2 p n T (.tcons .nilsl (.tcons (.bool false) .tnil)) m := .inl ⟨h, rfl⟩
theorem FaultQ2.no {p : Int} {n : Nat} {T g : Nat → Int} {m : Mem} {id : Nat} (h : faultAt p n T g) (hb : blockOf m id = some (.ints .i64 3 g, 3)) : FaultQ2 p n T (.tcons (.sl id 0 3 3) (.tcons (.bool true) .tnil)) m := .inr ⟨id, g, h, rfl, hb⟩

theorem unitV_u8 (i n : Nat) : isU8 n (unitV i) := fun j _ => by unfold unitV; split <;> omega

theorem l01Fault_s (p : Int) (n : Nat) (U T : Nat → Int) (hV : Valid p n U T) (hT : isU8 512 T) :
    Spec Tryz.prog 112 [algV p n U T] [] (FaultQ2 p n T) := by
  have hn := hV.hn
  refine Spec.of_vc tabOK tabEq Tryz.func112 rfl (by kernel_rfl) rfl rfl ?_
  refine LoopVC.of (fun i : Nat => i ≤ n ∧ ∀ i' j' k', i' < i → j' < n → k' < n → okF p T i' j' k' = true) (fun i => [(1, .ptr 0 [] 0 0), (2, .nilsl), (3, .bool false), (4, .int .i64 i)])
    (fun _ => [some (algV p n U T, 522)]) (fun i => n - i) 0 ⟨by omega, fun i' j' k' h => by omega⟩ ?_ ?_ ?_
  · exact And.intro rfl (And.intro rfl (And.intro rfl (And.intro rfl trivial)))
  · exact And.intro (And.intro (algR p n U T) rfl) trivial
  · rintro i ⟨hi, halli⟩
    refine ifVC_split (fun h => ?_) (fun h => ?_)
    · have hlti := of_decide_eq_true h
      refine LoopVC.of (fun j : Nat => j ≤ n ∧ ∀ j' k', j' < j → k' < n → okF p T i j' k' = true) (fun j => [(1, .ptr 0 [] 0 0), (2, .nilsl), (3, .bool false), (4, .int .i64 i), (5, .int .i64 j)])
        (fun _ => [some (algV p n U T, 522)]) (fun j => n - j) 0 ⟨by omega, fun j' k' h => by omega⟩ ?_ ?_ ?_
      · exact And.intro rfl (And.intro rfl (And.intro rfl (And.intro rfl (And.intro rfl trivial))))
      · exact And.intro (And.intro (algR p n U T) rfl) trivial
      · rintro j ⟨hj, hallj⟩
        refine ifVC_split (fun h => ?_) (fun h => ?_)
        · have hltj := of_decide_eq_true h
          refine LoopVC.of (fun k : Nat => k ≤ n ∧ ∀ k', k' < k → okF p T i j k' = true) (fun k => [(1, .ptr 0 [] 0 0), (2, .nilsl), (3, .bool false), (4, .int .i64 i), (5, .int .i64 j), (6, .int .i64 k)])
            (fun _ => [some (algV p n U T, 522)]) (fun k => n - k) 0 ⟨by omega, fun k' h => by omega⟩ ?_ ?_ ?_
          · exact And.intro rfl (And.intro rfl (And.intro rfl (And.intro rfl (And.intro rfl (And.intro rfl trivial)))))
          · exact And.intro (And.intro (algR p n U T) rfl) trivial
          · rintro k ⟨hk, hallk⟩
            refine ifVC_split (fun h => ?_) (fun h => ?_)
            · have hltk := of_decide_eq_true h
              refine Exists.intro 19 (And.intro (by kernel_rfl) ?_)
              refine And.intro ⟨by omega, by omega⟩ ?_
              refine And.intro ⟨by omega, by omega⟩ ?_
              refine And.intro (by omega) ?_
              refine Exists.intro (.ints .u8 8 (unitV k)) (And.intro (And.intro rfl (And.intro rfl (Spec.mono (l01Basis_s k (by omega)) ?_))) ?_)
              · rintro r m ⟨rfl, _⟩
                simp only [Int.toNat_natCast]
              refine Exists.intro (.ints .u8 8 fun m => timS p n T (vecT T i j) (unitV k) n m % p) (And.intro (And.intro rfl (And.intro rfl ?_)) ?_)
              · refine Spec.mono (l01Times_s p n U T _ _ hV.hp hn hT (fun q hq => hT _ (by omega)) (fun q hq => unitV_u8 k 8 q hq)) ?_
                rintro r m ⟨rfl, _⟩
                simp only [Int.toNat_natCast]
                rfl
              refine Exists.intro (.ints .u8 8 (unitV i)) (And.intro (And.intro rfl (And.intro rfl (Spec.mono (l01Basis_s i (by omega)) ?_))) ?_)
              · rintro r m ⟨rfl, _⟩
                simp only [Int.toNat_natCast]
              refine And.intro ⟨by omega, by omega⟩ ?_
              refine And.intro ⟨by omega, by omega⟩ ?_
              refine And.intro (by omega) ?_
              refine And.intro trivial (Spec.mono (l01Times_s p n U T _ _ hV.hp hn hT (unitV_u8 i 8) (fun q hq => hT _ (by omega))) ?_)
              rintro r m ⟨rfl, rfl⟩
              have hv1 : ∀ a, n ≤ a → a < 8 → vecT T i j a = 0 := fun a h1 h2 => hV.zero i j a (by omega) (by omega) h2 (.inr (.inr h1))
              have hv2 : ∀ a, n ≤ a → a < 8 → vecT T j k a = 0 := fun a h1 h2 => hV.zero j k a (by omega) (by omega) h2 (.inr (.inr h1))
              have hval : allEq 8 (fun m => timS p n T (vecT T i j) (unitV k) n m % p) (fun m => timS p n T (unitV i) (fun q => T (q + ((k : Int).toNat * 8 + ((j : Int).toNat * 64 + 0)))) n m % p) = okF p T i j k := by
                refine allEq_congr (fun m hm => times_unit hV hv1 (by omega) hm) fun m hm => ?_
                rw [Int.toNat_natCast, Int.toNat_natCast]
                exact unit_times hV hv2 (by omega) hm
              refine ifVC_split (fun hc => ?_) (fun hc => ?_)
              · have hc : okF p T i j k = false := by rw [← hval]; simpa using hc
                refine FaultQ2.no (g := upd1 (upd1 (upd1 (fun _ => 0) 0 i) 1 j) 2 k) ?_ ?_
                rotate_left
                · exact rfl
                refine ⟨i, j, k, by omega, by omega, by omega, hc, fun i' j' k' h1 h2 h3 h4 => ?_, rfl, rfl, rfl⟩
                rcases h4 with h4 | ⟨rfl, h4⟩ | ⟨rfl, rfl, h4⟩
                · exact halli i' j' k' h4 h2 h3
                · exact hallj j' k' h4 h3
                · exact hallk k' h4
              · have hc : okF p T i j k = true := by rw [← hval]; simpa using hc
                refine Exists.intro (k + 1) (And.intro ⟨by omega, fun k' hk' => ?_⟩ (And.intro (by omega) (And.intro ?_ ?_)))
                · by_cases hkk : k' = k
                  · subst hkk; exact hc
                  · exact hallk k' (by omega)
                · exact And.intro rfl (And.intro rfl (And.intro rfl (And.intro rfl (And.intro rfl (And.intro (slotI (wrapS (by omega))) trivial)))))
                · exact And.intro (And.intro (algR p n U T) rfl) trivial
            · have hge := of_decide_eq_false h
              refine Exists.intro (j + 1) (And.intro ⟨by omega, fun j' k' hj' hk' => ?_⟩ (And.intro (by omega) (And.intro ?_ ?_)))
              · by_cases hjj : j' = j
                · subst hjj; exact hallk k' (by omega)
                · exact hallj j' k' (by omega) hk'
              · exact And.intro rfl (And.intro rfl (And.intro rfl (And.intro rfl (And.intro (slotI (wrapS (by omega))) trivial))))
              · exact And.intro (And.intro (algR p n U T) rfl) trivial
        · have hge := of_decide_eq_false h
          refine Exists.intro (i + 1) (And.intro ⟨by omega, fun i' j' k' hi' hj' hk' => ?_⟩ (And.intro (by omega) (And.intro ?_ ?_)))
          · by_cases hii : i' = i
            · subst hii; exact hallj j' k' (by omega) hk'
            · exact halli i' j' k' (by omega) hj' hk'
          · exact And.intro rfl (And.intro rfl (And.intro rfl (And.intro (slotI (wrapS (by omega))) trivial)))
          · exact And.intro (And.intro (algR p n U T) rfl) trivial
    · have hge := of_decide_eq_false h
      exact FaultQ2.yes fun i' j' k' h1 h2 h3 => halli i' j' k' (by omega) h2 h3

theorem l01Is_s (p n : Int) (U T : Nat → Int) (hU : isU8 8 U) (hT : isU8 512 T) : Spec Tryz.prog 94 [algV p n U T] [] (Ret (.bool (algB p n U T))) := by
  refine Spec.ret rfl (Spec.of_vc tabOK tabEq Tryz.func94 rfl (by kernel_rfl) rfl rfl ?_)
  refine And.intro trivial (Spec.mono (l01Shape_s p n U T hU hT) ?_)
  rintro r m ⟨rfl, rfl⟩
  refine ifVC_split (fun hs => ?_) (fun hs => ?_)
  · exact boolEq (by simp at hs; simp [algB, hs])
  have hs : shapeB p n U T = true := by simpa using hs
  obtain ⟨n, rfl⟩ : ∃ k : Nat, n = k := ⟨n.toNat, by have := (field_bounds (shape_field hs)).2; omega⟩
  have hV := valid_of hU hT hs
  have hn := hV.hn
  refine LoopVC.of (fun i : Nat => i ≤ n ∧ ∀ i', i' < i → unitOk p U T i' = true) (fun i => [(1, .ptr 0 [] 0 0), (3, .int .i64 i)])
    (fun _ => [some (algV p n U T, 522)]) (fun i => n - i) 0 ⟨by omega, fun i' h => by omega⟩ ?_ ?_ ?_
  · exact And.intro rfl (And.intro rfl trivial)
  · exact And.intro (And.intro (algR p n U T) rfl) trivial
  · rintro i ⟨hi, hall⟩
    refine ifVC_split (fun h => ?_) (fun h => ?_)
    · have hlt := of_decide_eq_true h
      have basis : ∀ (Q : SV → Mem → Prop), (∀ r m, r = SV.ints .u8 8 (unitV i) → m = [] → Q r m) → Spec Tryz.prog 56 [.int .i64 i] [] Q := fun Q hQ =>
        Spec.mono (l01Basis_s i (by omega)) (by rintro r m ⟨rfl, hm⟩; exact hQ _ _ (by simp only [Int.toNat_natCast]) hm)
      have e1 : allEq 8 (fun m => timS p n T U (unitV i) n m % p) (unitV i) = allEq 8 (rightF p T U i) (unitV i) :=
        allEq_congr (fun m hm => times_unit hV (fun a h1 h2 => hV.uzero a h2 h1) (by omega) hm) fun _ _ => rfl
      have e2 : allEq 8 (fun m => timS p n T (unitV i) U n m % p) (unitV i) = allEq 8 (leftF p T i U) (unitV i) :=
        allEq_congr (fun m hm => unit_times hV (fun a h1 h2 => hV.uzero a h2 h1) (by omega) hm) fun _ _ => rfl
      refine Exists.intro 17 (And.intro (by kernel_rfl) ?_)
      refine And.intro (by omega) ?_
      refine Exists.intro (.ints .u8 8 (unitV i)) (And.intro (And.intro rfl (And.intro rfl (basis _ fun r m h _ => h))) ?_)
      refine Exists.intro (.ints .u8 8 fun m => timS p n T U (unitV i) n m % p) (And.intro (And.intro rfl (And.intro rfl ?_)) ?_)
      · refine Spec.mono (l01Times_s p n U T _ _ hV.hp hn hT (fun q hq => hU _ (by omega)) (unitV_u8 i 8)) ?_
        rintro r m ⟨rfl, _⟩
        rfl
      refine Exists.intro (.ints .u8 8 (unitV i)) (And.intro (And.intro rfl (And.intro rfl (basis _ fun r m h _ => h))) ?_)
      refine ifVC_split (fun hc => ?_) (fun hc => ?_)
      · have hc : allEq 8 (rightF p T U i) (unitV i) = false := by rw [← e1]; simpa using hc
        exact boolEq (by simp [algB, unitB_no (U := U) (T := T) (p := p) (n := n) (i := i) (by omega) (by simp [unitOk, hc])])
      · have hc : allEq 8 (rightF p T U i) (unitV i) = true := by rw [← e1]; simpa using hc
        refine Exists.intro (.ints .u8 8 (unitV i)) (And.intro (And.intro rfl (And.intro rfl (basis _ fun r m h _ => h))) ?_)
        refine And.intro (by omega) ?_
        refine Exists.intro (.ints .u8 8 fun m => timS p n T (unitV i) U n m % p) (And.intro (And.intro rfl (And.intro rfl ?_)) ?_)
        · refine Spec.mono (l01Times_s p n U T _ _ hV.hp hn hT (unitV_u8 i 8) (fun q hq => hU _ (by omega))) ?_
          rintro r m ⟨rfl, _⟩
          rfl
        refine And.intro trivial (basis _ ?_)
        rintro r m rfl rfl
        refine ifVC_split (fun hd => ?_) (fun hd => ?_)
        · have hd : allEq 8 (leftF p T i U) (unitV i) = false := by rw [← e2]; simpa using hd
          exact boolEq (by simp [algB, unitB_no (U := U) (T := T) (p := p) (n := n) (i := i) (by omega) (by simp [unitOk, hd])])
        · have hd : allEq 8 (leftF p T i U) (unitV i) = true := by rw [← e2]; simpa using hd
          refine Exists.intro (i + 1) (And.intro ⟨by omega, fun i' hi' => ?_⟩ (And.intro (by omega) (And.intro ?_ ?_)))
          · by_cases hii : i' = i
            · subst hii; simp [unitOk, hc, hd]
            · exact hall i' (by omega)
          · exact And.intro rfl (And.intro (slotI (wrapS (by omega))) trivial)
          · exact And.intro (And.intro (algR p n U T) rfl) trivial
    · have hge := of_decide_eq_false h
      obtain rfl : i = n := by omega
      have hunit := unitB_yes (p := p) (U := U) (T := T) hall
      refine And.intro trivial (Spec.mono (l01Fault_s p i U T hV hT) ?_)
      rintro r m (⟨hass, rfl⟩ | ⟨id, g, hf, rfl, hb⟩)
      · exact boolEq (by simp [algB, hs, assL_yes hass, hunit])
      · exact boolEq (by simp [algB, assL_no hf])

end Go.Proofs.YtjanlnngeklhoabGreat

/- Lists of vectors, left tables and products of vectors, on both sides. -/
set_option linter.unusedVariables false
set_option linter.unusedSimpArgs false
set_option maxRecDepth 100000
namespace Go.Proofs.YtjanlnngeklhoabGreat
open M

def sumN : Nat → (Nat → Int) → Int
  | 0, _ => 0
  | k + 1, g => sumN k g + g k
theorem sumN_congr {f g : Nat → Int} : ∀ k : Nat, (∀ i, i < k → f i = g i) → sumN k f = sumN k g
  | 0, _ => rfl
  | k + 1, h => by show sumN k f + f k = sumN k g + g k; rw [sumN_congr k fun i hi => h i (by omega), h k (by omega)]
theorem sumN_add (f g : Nat → Int) : ∀ k : Nat, sumN k (fun i => f i + g i) = sumN k f + sumN k g
  | 0 => rfl
  | k + 1 => by show sumN k (fun i => f i + g i) + (f k + g k) = (sumN k f + f k) + (sumN k g + g k); rw [sumN_add f g k]; omega
theorem sumN_zero : ∀ k : Nat, sumN k (fun _ => 0) = 0
  | 0 => rfl
  | k + 1 => by show sumN k (fun _ => 0) + 0 = 0; rw [sumN_zero k]; rfl
theorem sumN_none {f : Nat → Int} (k : Nat) (h : ∀ i, i < k → f i = 0) : sumN k f = 0 := by rw [sumN_congr (g := fun _ => 0) k h, sumN_zero]
theorem sumN_mul (c : Int) (g : Nat → Int) : ∀ k : Nat, c * sumN k g = sumN k (fun i => c * g i)
  | 0 => by simp [sumN]
  | k + 1 => by show c * (sumN k g + g k) = sumN k (fun i => c * g i) + c * g k; rw [Int.mul_add, sumN_mul c g k]
theorem sumN_swap (f : Nat → Nat → Int) (b : Nat) : ∀ a : Nat, sumN a (fun i => sumN b (f i)) = sumN b (fun j => sumN a (fun i => f i j))
  | 0 => by simp [sumN, sumN_zero]
  | a + 1 => by
    show sumN a (fun i => sumN b (f i)) + sumN b (f a) = sumN b (fun j => sumN a (fun i => f i j) + f a j)
    rw [sumN_swap f b a, sumN_add]
theorem sumN_mod (p : Int) (v g : Nat → Int) : ∀ k : Nat, sumN k (fun i => v i * (g i % p)) % p = sumN k (fun i => v i * g i) % p
  | 0 => rfl
  | k + 1 => by
    show (sumN k (fun i => v i * (g i % p)) + v k * (g k % p)) % p = (sumN k (fun i => v i * g i) + v k * g k) % p
    rw [Int.add_emod, sumN_mod p v g k, Int.mul_emod, Int.emod_emod, ← Int.mul_emod, ← Int.add_emod]
theorem linS_sum (F v : Nat → Int) (j : Nat) : ∀ k : Nat, linS F v k j = sumN k fun i => v i * F (i * 8 + j)
  | 0 => rfl
  | k + 1 => by show linS F v k j + v k * F (k * 8 + j) = _; rw [linS_sum F v j k]; rfl
theorem timS_sum (p : Int) (n : Nat) (T v w : Nat → Int) (j : Nat) : ∀ k : Nat, timS p n T v w k j = sumN k fun i => v i * (linS (rowT T i) w n j % p)
  | 0 => rfl
  | k + 1 => by show timS p n T v w k j + v k * (linS (rowT T k) w n j % p) = _; rw [timS_sum p n T v w j k]; rfl

theorem sum_bound {f : Nat → Int} (k : Nat) (h : ∀ i, i < k → 0 ≤ f i ∧ f i ≤ 65025) : 0 ≤ sumN k f ∧ sumN k f ≤ 65025 * k := by
  induction k with
  | zero => simp [sumN]
  | succ k ih =>
    have := ih fun i hi => h i (by omega)
    have h2 := h k (by omega)
    show 0 ≤ sumN k f + f k ∧ sumN k f + f k ≤ 65025 * ((k + 1 : Nat) : Int)
    omega

theorem sumN_cut {f : Nat → Int} {n : Nat} : ∀ k : Nat, n ≤ k → (∀ i, n ≤ i → i < k → f i = 0) → sumN k f = sumN n f
  | 0, h, _ => by obtain rfl : n = 0 := by omega
                  rfl
  | k + 1, h, hz => by
    rcases Nat.lt_or_ge n (k + 1) with h' | h'
    · show sumN k f + f k = _
      rw [sumN_cut k (by omega) fun i h1 h2 => hz i h1 (by omega), hz k (by omega) (by omega)]
      simp
    · obtain rfl : n = k + 1 := by omega
      rfl

/-- the left table of v -/
def leftT (p : Int) (T v : Nat → Int) : Nat → Int := fun q => rightF p T v (q / 8) (q % 8)
def prodF (p : Int) (T v w : Nat → Int) : Nat → Int := fun m => linS (leftT p T v) w 8 m % p

theorem prod_eq {p : Int} {n : Nat} {U T v w : Nat → Int} (hV : Valid p n U T) (hv : ∀ i, n ≤ i → i < 8 → v i = 0) (hw : ∀ i, n ≤ i → i < 8 → w i = 0) {m : Nat} (hm : m < 8) : timS p n T v w n m % p = prodF p T v w m := by
  have hn := hV.hn
  unfold prodF
  rw [linS_cut 8 hn hw, timS_sum, linS_sum, sumN_mod]
  have e : sumN n (fun j => w j * leftT p T v (j * 8 + m)) % p = sumN n (fun j => w j * linS (rowT (flipF T) j) v n m) % p := by
    rw [← sumN_mod p w fun j => linS (rowT (flipF T) j) v n m]
    congr 1
    refine sumN_congr n fun j hj => ?_
    unfold leftT rightF
    rw [show (j * 8 + m) / 8 = j by omega, show (j * 8 + m) % 8 = m by omega, linS_cut 8 hn hv]
  rw [e]
  congr 1
  have l : sumN n (fun i => v i * linS (rowT T i) w n m) = sumN n (fun i => sumN n fun j => v i * (w j * vecT T i j m)) := sumN_congr n fun i hi => by
    rw [linS_sum, sumN_mul]
    refine sumN_congr n fun j hj => ?_
    rw [show rowT T i (j * 8 + m) = vecT T i j m by unfold rowT vecT; congr 1; omega]
  have r : sumN n (fun j => w j * linS (rowT (flipF T) j) v n m) = sumN n (fun j => sumN n fun i => v i * (w j * vecT T i j m)) := sumN_congr n fun j hj => by
    rw [linS_sum, sumN_mul]
    refine sumN_congr n fun i hi => ?_
    rw [show rowT (flipF T) j (i * 8 + m) = vecT T i j m by unfold rowT flipF vecT; congr 1; omega, ← Int.mul_assoc, Int.mul_comm (w j), Int.mul_assoc]
  rw [l, r, sumN_swap]

/-- all vectors of a list -/
def vectorsB (p n : Int) (len : Nat) (V : Nat → Int) : Bool := (List.range len).all fun i => entriesB p n (partF V 8 i)
theorem vectorsB_no {p n : Int} {len i : Nat} {V : Nat → Int} (hi : i < len) (h : entriesB p n (partF V 8 i) = false) : vectorsB p n len V = false := by
  cases hb : vectorsB p n len V with
  | false => rfl
  | true => have := List.all_eq_true.1 hb i (List.mem_range.2 hi); rw [h] at this; cases this
theorem vectorsB_yes {p n : Int} {len : Nat} {V : Nat → Int} (h : ∀ i, i < len → entriesB p n (partF V 8 i) = true) : vectorsB p n len V = true := List.all_eq_true.2 fun i hi => h i (List.mem_range.1 hi)

theorem areVectors_s (p n : Int) (len : Nat) (V : Nat → Int) (hlen : len ≤ 1000) (hfn : fieldB p n = true) (hV : isU8 (len * 8) V) :
    Spec Tryz.prog 49 [.int .i64 p, .int .i64 n, .sl 0 0 len len] [some (.ints .u8 (len * 8) V, len * 8)] (fun r m => r = .bool (vectorsB p n len V) ∧ m = [some (.ints .u8 (len * 8) V, len * 8)]) := by
  refine Spec.cut (Nat.le_refl _) (by simp [SV.ids]) (fun id u c hb => by cases id <;> cases hb; simp [SV.ids]) (Spec.of_vc tabOK tabEq Tryz.func49 rfl (by kernel_rfl) rfl rfl ?_)
  refine LoopVC.of (fun i : Nat => i ≤ len ∧ ∀ j, j < i → entriesB p n (partF V 8 j) = true) (fun i => [(0, .int .i64 p), (1, .int .i64 n), (9, .sl 0 0 len len), (10, .int .i64 len), (11, .int .i64 i)]) (fun _ => [some (.ints .u8 (len * 8) V, len * 8)]) (fun i => len - i) 0 ⟨by omega, fun j hj => by omega⟩ ?_ ?_ ?_
  · exact And.intro rfl (And.intro rfl (And.intro rfl (And.intro rfl (And.intro rfl trivial))))
  · exact And.intro (And.intro (rowEq fun _ _ => rfl) rfl) trivial
  · rintro i ⟨hi, hall⟩
    refine ifVC_split (fun h => ?_) (fun h => ?_)
    · have hlt := of_decide_eq_true h
      have hidx : (i : Int).toNat = i := by omega
      have hvec : ∀ j, j < 8 → updR (fun _ => 0) 0 8 (fun j => V (j + ((i : Int).toNat * 8 + 0))) (j + 0) = partF V 8 i j := fun j hj => by
        rw [hidx]; simp [updR, hj, partF]
      refine And.intro ⟨by omega, by omega⟩ ?_
      refine And.intro (by omega) ?_
      refine And.intro (by omega) ?_
      refine And.intro (by omega) ?_
      refine And.intro trivial (Spec.mono (implIsVector_s p n _ (fun j hj => by rw [hvec j hj]; exact hV _ (by omega))) ?_)
      rintro r m ⟨rfl, rfl⟩
      have he : vectorB p n (fun j => updR (fun _ => 0) 0 8 (fun j => V (j + ((i : Int).toNat * 8 + 0))) (j + 0)) = entriesB p n (partF V 8 i) := by
        rw [vectorB, hfn, Bool.true_and]; exact entriesB_congr hvec
      refine ifVC_split (fun hv => ?_) (fun hv => ?_)
      · have hv : entriesB p n (partF V 8 i) = false := by rw [← he]; simpa using hv
        exact And.intro (boolEq (by rw [vectorsB_no (i := i) (by omega) hv])) (And.intro (And.intro (rowEq fun _ _ => rfl) rfl) trivial)
      · have hv : entriesB p n (partF V 8 i) = true := by rw [← he]; simpa using hv
        refine Exists.intro (i + 1) (And.intro ⟨by omega, fun j hj => ?_⟩ (And.intro (by omega) (And.intro ?_ ?_)))
        · by_cases hji : j = i
          · subst hji; exact hv
          · exact hall j (by omega)
        · exact And.intro rfl (And.intro rfl (And.intro rfl (And.intro rfl (And.intro (slotI (wrapS (by omega))) trivial))))
        · exact And.intro (And.intro (rowEq fun _ _ => rfl) rfl) trivial
    · have hge := of_decide_eq_false h
      exact And.intro (boolEq (by rw [vectorsB_yes fun j hj => hall j (by omega)])) (And.intro (And.intro (rowEq fun _ _ => rfl) rfl) trivial)

theorem sumOfMaps_s (p : Int) (T v : Nat → Int) (hp : 0 < p ∧ p < 256) (hT : isU8 512 T) (hv : isU8 8 v) :
    Spec Tryz.prog 62 [.int .i64 p, .ints .u8 512 T, .ints .u8 8 v] [] (Ret (.ints .u8 64 (leftT p T v))) := by
  refine Spec.ret rfl (Spec.of_vc tabOK tabEq Tryz.func62 rfl (by kernel_rfl) rfl rfl ?_)
  (repeat (first | refine And.intro (by omega) ?_ | refine And.intro ⟨by omega, by omega⟩ ?_))
  refine And.intro trivial (Spec.mono (flipTable_s _) ?_)
  rintro r m ⟨rfl, rfl⟩
  refine LoopVC.of (fun i : Nat => i ≤ 8) (fun i => [(0, .int .i64 p), (5, .ptr 1 [] 0 0), (6, .ptr 2 [] 0 0), (7, .ptr 3 [] 0 0), (11, .ints .u8 512 (flipF T)), (12, .int .i64 i)])
    (fun i => [none, some (.ints .u8 8 v, 8), some (.ints .u8 64 fun _ => 0, 64), some (.ints .u8 64 fun q => if q < i * 8 then leftT p T v q else 0, 64)]) (fun i => 8 - i) 0 (by omega) ?_ ?_ ?_
  · exact And.intro rfl (And.intro rfl (And.intro rfl (And.intro rfl (And.intro (rowEq fun _ _ => rfl) (And.intro rfl trivial)))))
  · exact And.intro (And.intro (rowEq fun _ _ => rfl) rfl) (And.intro (And.intro (rowEq fun _ _ => rfl) rfl) (And.intro (And.intro (rowEq fun _ _ => by simp) rfl) trivial))
  · intro i hi
    refine ifVC_split (fun h => ?_) (fun h => ?_)
    · have hlt := of_decide_eq_true h
      have hidx : (i : Int).toNat = i := by omega
      (repeat (first | refine And.intro (by omega) ?_ | refine And.intro ⟨by omega, by omega⟩ ?_))
      have hrow : ∀ q, q < 64 → updR (fun _ => 0) 0 64 (fun j => flipF T (j + (i : Int).toNat * 64)) (q + 0) = rowT (flipF T) i q := fun q hq => by rw [hidx]; simp [updR, hq, rowT]
      refine And.intro trivial (Spec.mono (apply_s p _ _ hp (fun q hq => by rw [hrow q hq]; exact hT _ (by omega)) (fun q hq => hv _ (by omega))) ?_)
      rintro r m ⟨rfl, rfl⟩
      (repeat (first | refine And.intro (by omega) ?_ | refine And.intro ⟨by omega, by omega⟩ ?_))
      refine Exists.intro (i + 1) (And.intro (by omega) (And.intro (by omega) (And.intro (And.intro rfl (And.intro rfl (And.intro rfl (And.intro rfl (And.intro (rowEq fun _ _ => rfl) (And.intro (slotI (wrapS (by omega))) trivial)))))) ?_)))
      refine And.intro (And.intro (rowEq fun _ _ => rfl) rfl) (And.intro (And.intro (rowEq fun _ _ => rfl) rfl) (And.intro (And.intro (rowEq fun q hq => ?_) rfl) trivial))
      show updR _ ((i : Int).toNat * 8 + 0) 8 (fun j => linS (fun q => updR (fun _ => 0) 0 64 (fun j => flipF T (j + (i : Int).toNat * 64)) (q + 0)) v 8 j % p) q = if q < (i + 1) * 8 then leftT p T v q else 0
      have hlin : ∀ j, j < 8 → linS (fun q => updR (fun _ => 0) 0 64 (fun j => flipF T (j + (i : Int).toNat * 64)) (q + 0)) v 8 j % p = rightF p T v i j := fun j hj => by
        unfold rightF
        rw [linS_congr (G := rowT (flipF T) i) (v' := v) 8 fun a ha => by rw [hrow _ (by omega)]]
      unfold updR at hlin ⊢
      rw [hidx] at hlin ⊢
      dsimp only at hlin ⊢
      by_cases h1 : i * 8 + 0 ≤ q ∧ q < i * 8 + 0 + 8
      · rw [if_pos h1, hlin _ (by omega), if_pos (by omega)]
        unfold leftT
        congr 1 <;> omega
      · rw [if_neg h1]
        by_cases h2 : q < i * 8
        · rw [if_pos h2, if_pos (by omega)]
        · rw [if_neg h2, if_neg (by omega)]
    · have hge := of_decide_eq_false h
      obtain rfl : i = 8 := by omega
      (repeat (first | refine And.intro (by omega) ?_ | refine And.intro ⟨by omega, by omega⟩ ?_))
      refine rowEq fun q hq => ?_
      show updR _ 0 64 _ q = leftT p T v q
      simp [updR, hq]

theorem leftTable_s (p n : Int) (U T v : Nat → Int) (hp : 0 < p ∧ p < 256) (hT : isU8 512 T) (hv : isU8 8 v) :
    Spec Tryz.prog 116 [algV p n U T, .ints .u8 8 v] [] (Ret (.ints .u8 64 (leftT p T v))) := by
  refine Spec.ret rfl (Spec.of_vc tabOK tabEq Tryz.func116 rfl (by kernel_rfl) rfl rfl ?_)
  (repeat (first | refine And.intro (by omega) ?_ | refine And.intro ⟨by omega, by omega⟩ ?_))
  refine And.intro trivial (Spec.mono (sumOfMaps_s p _ _ hp (fun j hj => hT _ (by omega)) (fun j hj => hv _ (by omega))) ?_)
  rintro r m ⟨rfl, rfl⟩
  (repeat (first | refine And.intro (by omega) ?_ | refine And.intro ⟨by omega, by omega⟩ ?_))
  refine rowEq fun q hq => ?_
  show updR _ 0 64 _ q = leftT p T v q
  simp [updR, hq]

end Go.Proofs.YtjanlnngeklhoabGreat

/- Products of vectors: both sides, and the law. -/
set_option linter.unusedVariables false
set_option linter.unusedSimpArgs false
set_option maxRecDepth 100000
namespace Go.Proofs.YtjanlnngeklhoabGreat
open M

/-- two vectors one behind the other -/
def twoV (z v w : Nat → Int) : Nat → Int := updR (updR z (0 * 8) 8 v) (1 * 8) 8 w
def mulOk (p n : Int) (U T v w : Nat → Int) : Bool := algB p n U T && (entriesB p n v && entriesB p n w)
def mulV (p n : Int) (U T v w : Nat → Int) : SV := .tcons (.ints .u8 8 fun j => if mulOk p n U T v w = true then prodF p T v w j else 0) (.tcons (.int .i64 (if mulOk p n U T v w = true then 0 else 1)) .tnil)

theorem eqVector_s (v w : Nat → Int) : Spec Tryz.prog 25 [.ints .u8 8 v, .ints .u8 8 w] [] (Ret (.bool (allEq 8 v w))) := by
  refine Spec.ret rfl (Spec.of_vc tabOK tabEq Tryz.func25 rfl (by kernel_rfl) rfl rfl ?_)
  refine LoopVC.of (fun i : Nat => i ≤ 8 ∧ ∀ j, j < i → v j = w j) (fun i => [(2, .ptr 0 [] 0 0), (3, .ptr 1 [] 0 0), (5, .int .i64 i)]) (fun _ => [some (.ints .u8 8 v, 8), some (.ints .u8 8 w, 8)]) (fun i => 8 - i) 0 ⟨by omega, fun j hj => by omega⟩ ?_ ?_ ?_
  · exact And.intro rfl (And.intro rfl (And.intro rfl trivial))
  · exact And.intro (And.intro (rowEq fun _ _ => rfl) rfl) (And.intro (And.intro (rowEq fun _ _ => rfl) rfl) trivial)
  · rintro i ⟨hi, hall⟩
    refine ifVC_split (fun h => ?_) (fun h => ?_)
    · have hlt := of_decide_eq_true h
      refine Exists.intro 6 (And.intro (by kernel_rfl) ?_)
      refine And.intro ⟨by omega, by omega⟩ ?_
      refine And.intro (by omega) ?_
      refine And.intro ⟨by omega, by omega⟩ ?_
      refine And.intro (by omega) ?_
      have hidx : (i : Int).toNat * 1 + 0 = i := by omega
      refine ifVC_split (fun hc => ?_) (fun hc => ?_)
      · have hc : v i ≠ w i := by
          have hc : v ((i : Int).toNat * 1 + 0) ≠ w ((i : Int).toNat * 1 + 0) := by simpa using hc
          rw [hidx] at hc; exact hc
        refine boolEq ?_
        cases hb : allEq 8 v w with
        | false => rfl
        | true => exact absurd (allEq_get hb (by omega)) hc
      · have hc : v i = w i := by
          have hc : v ((i : Int).toNat * 1 + 0) = w ((i : Int).toNat * 1 + 0) := by simpa using hc
          rw [hidx] at hc; exact hc
        refine Exists.intro (i + 1) (And.intro ⟨by omega, fun j hj => ?_⟩ (And.intro (by omega) (And.intro ?_ ?_)))
        · by_cases hji : j = i
          · subst hji; exact hc
          · exact hall j (by omega)
        · exact And.intro rfl (And.intro rfl (And.intro (slotI (wrapS (by omega))) trivial))
        · exact And.intro (And.intro (rowEq fun _ _ => rfl) rfl) (And.intro (And.intro (rowEq fun _ _ => rfl) rfl) trivial)
    · have hge := of_decide_eq_false h
      obtain rfl : i = 8 := by omega
      refine boolEq ?_
      unfold allEq
      exact (List.all_eq_true.2 fun j hj => by simp [hall j (List.mem_range.1 hj)]).symm

end Go.Proofs.YtjanlnngeklhoabGreat

/- The law on MultiplyVectors. -/
set_option linter.unusedVariables false
set_option linter.unusedSimpArgs false
set_option maxRecDepth 100000
namespace Go.Proofs.YtjanlnngeklhoabGreat
open M

end Go.Proofs.YtjanlnngeklhoabGreat

/- Powers of vectors, on both sides, and the law. -/
set_option linter.unusedVariables false
set_option linter.unusedSimpArgs false
set_option maxRecDepth 100000
namespace Go.Proofs.YtjanlnngeklhoabGreat
open M

def powF (p : Int) (U T v : Nat → Int) : Nat → Nat → Int
  | 0 => U
  | k + 1 => prodF p T (powF p U T v k) v
def oneV (z v : Nat → Int) : Nat → Int := updR z (0 * 8) 8 v
theorem one_0 (z v : Nat → Int) : ∀ j, j < 8 → partF (oneV z v) 8 0 j = v j := fun j hj => by
  unfold partF oneV updR; rw [if_pos (by omega)]; congr 1
theorem one_vectors (p n : Int) (z v : Nat → Int) : vectorsB p n 1 (oneV z v) = entriesB p n v := by
  show ((List.range 1).all fun i => entriesB p n (partF (oneV z v) 8 i)) = _
  simp only [List.range_succ, List.range_zero, List.nil_append, List.all_cons, List.all_nil, Bool.and_true]
  rw [entriesB_congr (one_0 z v)]
theorem one_u8 {z v : Nat → Int} (hv : isU8 8 v) : isU8 (1 * 8) (oneV z v) := fun j hj => by
  have := one_0 z v j (by omega)
  unfold partF at this
  rw [show j + 0 * 8 = j by omega] at this
  rw [this]; exact hv j (by omega)

def oneOk (p n : Int) (U T v : Nat → Int) : Bool := algB p n U T && entriesB p n v
def powIn (k : Int) : Bool := decide (0 ≤ k) && decide (k ≤ 100)
def powV (p n : Int) (U T v : Nat → Int) (k : Int) : SV :=
  .tcons (.ints .u8 8 fun j => if (oneOk p n U T v && powIn k) = true then powF p U T v k.toNat j else 0) (.tcons (.int .i64 (if oneOk p n U T v = true then (if powIn k = true then 0 else 2) else 1)) .tnil)

end Go.Proofs.YtjanlnngeklhoabGreat

/- Lists of numbers compared, marked and held. -/
set_option linter.unusedVariables false
set_option linter.unusedSimpArgs false
set_option maxRecDepth 100000
namespace Go.Proofs.YtjanlnngeklhoabGreat
open M

end Go.Proofs.YtjanlnngeklhoabGreat

/- The first fault of an algebra, on both sides, and the law; lists of numbers compared, marked and held. -/
set_option linter.unusedVariables false
set_option linter.unusedSimpArgs false
set_option maxRecDepth 100000
set_option maxHeartbeats 4000000
namespace Go.Proofs.YtjanlnngeklhoabGreat
open M

def First0 (p n : Int) (U T : Nat → Int) (r : SV) (m : Mem) : Prop :=
  (shapeB p n U T = false ∧ r = .tcons .nilsl (.tcons (.int .i64 1) .tnil)) ∨ (shapeB p n U T = true ∧ assB p n.toNat T ∧ r = .tcons .nilsl (.tcons (.int .i64 4) .tnil)) ∨
    (shapeB p n U T = true ∧ ∃ id g, faultAt p n.toNat T g ∧ r = .tcons (.sl id 0 3 3) (.tcons (.int .i64 0) .tnil) ∧ blockOf m id = some (.ints .i64 3 g, 3))
def FirstQ (p n : Int) (U T : Nat → Int) (r : SV) (m : Mem) : Prop :=
  (shapeB p n U T = false ∧ r = .tcons .nilsl (.tcons (.int .i64 1) .tnil) ∧ m = []) ∨ (shapeB p n U T = true ∧ assB p n.toNat T ∧ r = .tcons .nilsl (.tcons (.int .i64 4) .tnil) ∧ m = []) ∨
    (shapeB p n U T = true ∧ ∃ g, faultAt p n.toNat T g ∧ r = .tcons (.sl 0 0 3 3) (.tcons (.int .i64 0) .tnil) ∧ m = [some (.ints .i64 3 g, 3)])
end Go.Proofs.YtjanlnngeklhoabGreat

/- Coalgebras by tables: the dual algebra's table, and what its axioms say of the coalgebra. -/
set_option linter.unusedVariables false
set_option linter.unusedSimpArgs false
set_option maxRecDepth 100000
namespace Go.Proofs.YtjanlnngeklhoabGreat
open M

/-- the table of the dual algebra -/
def dualF (C : Nat → Int) : Nat → Int := fun q => C ((q % 8) * 64 + (q / 64) * 8 + q / 8 % 8)
theorem dual_vec (C : Nat → Int) {i j k : Nat} (hi : i < 8) (hj : j < 8) (hk : k < 8) : vecT (dualF C) j k i = vecT C i j k := by
  unfold vecT dualF
  congr 1
  omega
theorem dual_u8 {C : Nat → Int} (h : isU8 512 C) : isU8 512 (dualF C) := fun q hq => h _ (by omega)

theorem tab_iff {p n : Int} {T : Nat → Int} : tabB p n T = true ↔ ∀ i j m, i < 8 → j < 8 → m < 8 → vecT T i j m < p ∧ ((n ≤ i ∨ n ≤ j ∨ n ≤ m) → vecT T i j m = 0) := by
  have e : ∀ i j m, vecT T i j m = partF (partF T 64 i) 8 j m := fun i j m => by unfold vecT partF; rw [Nat.add_assoc]
  constructor
  · intro ht
    have row : ∀ i, i < 8 → linB p n n (partF T 64 i) = true ∧ (n ≤ i → ∀ q, q < 64 → T (q + i * 64) = 0) := fun i hi => by
      have := List.all_eq_true.1 ht i (List.mem_range.2 hi)
      simp only [rowB, Bool.and_eq_true, Bool.or_eq_true, decide_eq_true_eq] at this
      refine ⟨this.1, fun hni q hq => ?_⟩
      rcases this.2 with h | h
      · omega
      · exact allEq_get h hq
    have image : ∀ i j, i < 8 → j < 8 → entriesB p n (partF (partF T 64 i) 8 j) = true ∧ (n ≤ j → ∀ q, q < 8 → T (q + j * 8 + i * 64) = 0) := fun i j hi hj => by
      have := List.all_eq_true.1 (row i hi).1 j (List.mem_range.2 hj)
      simp only [imageB, Bool.and_eq_true, Bool.or_eq_true, decide_eq_true_eq] at this
      refine ⟨this.1, fun hnj q hq => ?_⟩
      rcases this.2 with h | h
      · omega
      · exact allEq_get h hq
    intro i j m hi hj hm
    refine ⟨by rw [e]; exact (entries_get (image i j hi hj).1 hm).1, fun hz => ?_⟩
    rcases hz with hz | hz | hz
    · have := (row i hi).2 hz (m + j * 8) (by omega)
      unfold vecT; rw [← Nat.add_assoc]; exact this
    · have := (image i j hi hj).2 hz m hm
      unfold vecT; rw [← Nat.add_assoc]; exact this
    · rw [e]; exact (entries_get (image i j hi hj).1 hm).2 hz
  · intro h
    refine all8_yes fun i hi => ?_
    simp only [rowB, Bool.and_eq_true, Bool.or_eq_true, decide_eq_true_eq]
    refine ⟨all8_yes fun j hj => ?_, ?_⟩
    · simp only [imageB, Bool.and_eq_true, Bool.or_eq_true, decide_eq_true_eq]
      refine ⟨all8_yes fun m hm => ?_, ?_⟩
      · simp only [entryB, Bool.and_eq_true, Bool.or_eq_true, decide_eq_true_eq, beq_iff_eq]
        rw [← e]
        refine ⟨(h i j m hi hj hm).1, ?_⟩
        by_cases hmn : (m : Int) < n
        · exact .inl hmn
        · exact .inr ((h i j m hi hj hm).2 (.inr (.inr (by omega))))
      · by_cases hjn : (j : Int) < n
        · exact .inl hjn
        · refine .inr (List.all_eq_true.2 fun m hm => ?_)
          have hm := List.mem_range.1 hm
          rw [← e, (h i j m hi hj hm).2 (.inr (.inl (by omega)))]
          simp
    · by_cases hin : (i : Int) < n
      · exact .inl hin
      · refine .inr (List.all_eq_true.2 fun q hq => ?_)
        have hq := List.mem_range.1 hq
        have e2 : partF T 64 i q = vecT T i (q / 8) (q % 8) := by unfold partF vecT; congr 1; omega
        rw [e2, (h i (q / 8) (q % 8) hi (by omega) (by omega)).2 (.inl (by omega))]
        simp

theorem tab_dual (p n : Int) (C : Nat → Int) : tabB p n (dualF C) = tabB p n C := by
  rw [Bool.eq_iff_iff, tab_iff, tab_iff]
  constructor
  · intro h i j k hi hj hk
    have := h j k i hj hk hi
    rw [dual_vec C hi hj hk] at this
    exact ⟨this.1, fun hz => this.2 (by omega)⟩
  · intro h j k i hj hk hi
    rw [dual_vec C hi hj hk]
    have := h i j k hi hj hk
    exact ⟨this.1, fun hz => this.2 (by omega)⟩
theorem shape_dual (p n : Int) (U C : Nat → Int) : shapeB p n U (dualF C) = shapeB p n U C := by
  unfold shapeB
  rw [tab_dual]

/-- the two sums of coassociativity -/
def coL (n : Nat) (C : Nat → Int) (i j k l : Nat) : Int := sumN n fun a => vecT C i a l * vecT C a j k
def coR (n : Nat) (C : Nat → Int) (i j k l : Nat) : Int := sumN n fun a => vecT C i j a * vecT C a k l
def coOk (p : Int) (n : Nat) (C : Nat → Int) (i j k l : Nat) : Bool := decide (coL n C i j k l % p = coR n C i j k l % p)

section
variable {p : Int} {n : Nat} {U C : Nat → Int}

theorem co_zero (hV : Valid p n U (dualF C)) {i j k : Nat} (hi : i < 8) (hj : j < 8) (hk : k < 8) (h : n ≤ i ∨ n ≤ j ∨ n ≤ k) : vecT C i j k = 0 := by
  rw [← dual_vec C hi hj hk]
  exact hV.zero j k i hj hk hi (by omega)
theorem right_co (hV : Valid p n U (dualF C)) {i j k m : Nat} (hi : i < 8) (hj : j < 8) (hk : k < 8) (hm : m < 8) : rightF p (dualF C) (vecT (dualF C) i j) k m = coL n C m i j k % p := by
  have hn := hV.hn
  unfold rightF coL
  rw [linS_cut 8 hn (fun a h1 h2 => hV.zero i j a hi hj h2 (.inr (.inr h1))), linS_sum]
  congr 1
  refine sumN_congr n fun a ha => ?_
  have e : rowT (flipF (dualF C)) k (a * 8 + m) = vecT (dualF C) a k m := by unfold rowT flipF vecT; congr 1; omega
  rw [e, dual_vec C hm (by omega) hk, dual_vec C (by omega) hi hj, Int.mul_comm]
theorem left_co (hV : Valid p n U (dualF C)) {i j k m : Nat} (hi : i < 8) (hj : j < 8) (hk : k < 8) (hm : m < 8) : leftF p (dualF C) i (vecT (dualF C) j k) m = coR n C m i j k % p := by
  have hn := hV.hn
  unfold leftF coR
  rw [linS_cut 8 hn (fun a h1 h2 => hV.zero j k a hj hk h2 (.inr (.inr h1))), linS_sum]
  congr 1
  refine sumN_congr n fun a ha => ?_
  have e : rowT (dualF C) i (a * 8 + m) = vecT (dualF C) i a m := by unfold rowT vecT; congr 1; omega
  rw [e, dual_vec C hm hi (by omega), dual_vec C (by omega) hj hk, Int.mul_comm]
theorem co_behind (hV : Valid p n U (dualF C)) {i j k l : Nat} (hi : i < 8) (hj : j < 8) (hk : k < 8) (hl : l < 8) (h : n ≤ i) : coOk p n C i j k l = true := by
  have hn := hV.hn
  unfold coOk coL coR
  rw [sumN_none n fun a ha => by rw [co_zero hV hi (by omega) hl (.inl h)]; simp, sumN_none n fun a ha => by rw [co_zero hV hi hj (by omega) (.inl h)]; simp]
  simp

def coAss (p : Int) (n : Nat) (C : Nat → Int) : Prop := ∀ i j k l, i < n → j < n → k < n → l < n → coOk p n C i j k l = true
theorem okF_co (hV : Valid p n U (dualF C)) {i j k : Nat} (hi : i < n) (hj : j < n) (hk : k < n) : okF p (dualF C) i j k = true ↔ ∀ m, m < n → coOk p n C m i j k = true := by
  have hn := hV.hn
  unfold okF
  constructor
  · intro h m hm
    have := allEq_get h (show m < 8 by omega)
    rw [right_co hV (by omega) (by omega) (by omega) (by omega), left_co hV (by omega) (by omega) (by omega) (by omega)] at this
    simpa [coOk] using this
  · intro h
    refine List.all_eq_true.2 fun m hm => ?_
    have hm := List.mem_range.1 hm
    rw [right_co hV (by omega) (by omega) (by omega) hm, left_co hV (by omega) (by omega) (by omega) hm]
    have : coOk p n C m i j k = true := by
      by_cases hmn : m < n
      · exact h m hmn
      · exact co_behind hV hm (by omega) (by omega) (by omega) (by omega)
    simpa [coOk] using this
theorem ass_co (hV : Valid p n U (dualF C)) : assB p n (dualF C) ↔ coAss p n C := by
  constructor
  · intro h i j k l hi hj hk hl
    exact (okF_co hV hj hk hl).1 (h j k l hj hk hl) i hi
  · intro h i j k hi hj hk
    exact (okF_co hV hi hj hk).2 fun m hm => h m i j k hm hi hj hk
theorem assL_co (hV : Valid p n U (dualF C)) : assL p n (dualF C) = true ↔ coAss p n C := by
  rw [← ass_co hV]
  constructor
  · intro h i j k hi hj hk
    exact List.all_eq_true.1 (List.all_eq_true.1 (List.all_eq_true.1 h i (List.mem_range.2 hi)) j (List.mem_range.2 hj)) k (List.mem_range.2 hk)
  · exact assL_yes

/-- what the counit gives on the left and on the right -/
def couA (p : Int) (n : Nat) (U C : Nat → Int) (i m : Nat) : Int := linS (rowT C i) U n m % p
def couB (p : Int) (n : Nat) (U C : Nat → Int) (i j : Nat) : Int := sumN n (fun a => U a * vecT C i j a) % p
def couOk (p : Int) (n : Nat) (U C : Nat → Int) (i : Nat) : Bool := allEq 8 (couA p n U C i) (unitV i) && allEq 8 (fun j => if j < n then couB p n U C i j else 0) (unitV i)

theorem couA_sum (i m : Nat) (hm : m < 8) : couA p n U C i m = sumN n (fun a => U a * vecT C i a m) % p := by
  unfold couA
  rw [linS_sum]
  congr 1
  refine sumN_congr n fun a ha => ?_
  have e : rowT C i (a * 8 + m) = vecT C i a m := by unfold rowT vecT; congr 1; omega
  rw [e]
theorem right_cou (hV : Valid p n U (dualF C)) {i m : Nat} (hi : i < 8) (hm : m < 8) : rightF p (dualF C) U i m = couA p n U C m i := by
  have hn := hV.hn
  rw [couA_sum m i hi]
  unfold rightF
  rw [linS_cut 8 hn (fun a h1 h2 => hV.uzero a h2 h1), linS_sum]
  congr 1
  refine sumN_congr n fun a ha => ?_
  have e : rowT (flipF (dualF C)) i (a * 8 + m) = vecT (dualF C) a i m := by unfold rowT flipF vecT; congr 1; omega
  rw [e, dual_vec C hm (by omega) hi]
theorem left_cou (hV : Valid p n U (dualF C)) {i m : Nat} (hi : i < 8) (hm : m < 8) : leftF p (dualF C) i U m = couB p n U C m i := by
  have hn := hV.hn
  unfold leftF couB
  rw [linS_cut 8 hn (fun a h1 h2 => hV.uzero a h2 h1), linS_sum]
  congr 1
  refine sumN_congr n fun a ha => ?_
  have e : rowT (dualF C) i (a * 8 + m) = vecT (dualF C) i a m := by unfold rowT vecT; congr 1; omega
  rw [e, dual_vec C hm hi (by omega)]
theorem couA_zero (hV : Valid p n U (dualF C)) {i m : Nat} (hi : i < 8) (hm : m < 8) (h : n ≤ i ∨ n ≤ m) : couA p n U C i m = 0 := by
  have hn := hV.hn
  rw [couA_sum i m hm, sumN_none n fun a ha => by rw [co_zero hV hi (by omega) hm (by omega)]; simp]
  simp
theorem couB_zero (hV : Valid p n U (dualF C)) {i m : Nat} (hi : i < 8) (hm : m < 8) (h : n ≤ i ∨ n ≤ m) : couB p n U C i m = 0 := by
  have hn := hV.hn
  unfold couB
  rw [sumN_none n fun a ha => by rw [co_zero hV hi hm (by omega) (by omega)]; simp]
  simp
theorem unitV_sym (i m : Nat) : unitV i m = unitV m i := by
  unfold unitV
  by_cases h : m = i
  · rw [if_pos h, if_pos h.symm]
  · rw [if_neg h, if_neg (fun e => h e.symm)]
theorem unitV_ne {i m : Nat} (h : m ≠ i) : unitV i m = 0 := by unfold unitV; rw [if_neg h]

theorem unit_co (hV : Valid p n U (dualF C)) : unitB p n U (dualF C) = true ↔ ∀ i, i < n → couOk p n U C i = true := by
  have hn := hV.hn
  constructor
  · intro h i hi
    have get : ∀ m, m < n → couA p n U C i m = unitV m i ∧ couB p n U C i m = unitV m i := fun m hm => by
      have := List.all_eq_true.1 h m (List.mem_range.2 hm)
      simp only [unitOk, Bool.and_eq_true] at this
      have h1 := allEq_get this.1 (show i < 8 by omega)
      have h2 := allEq_get this.2 (show i < 8 by omega)
      rw [right_cou hV (by omega) (by omega)] at h1
      rw [left_cou hV (by omega) (by omega)] at h2
      exact ⟨h1, h2⟩
    simp only [couOk, Bool.and_eq_true]
    refine ⟨List.all_eq_true.2 fun m hm => ?_, List.all_eq_true.2 fun m hm => ?_⟩
    · have hm := List.mem_range.1 hm
      by_cases hmn : m < n
      · rw [(get m hmn).1, unitV_sym]; simp
      · rw [couA_zero hV (by omega) hm (by omega), unitV_ne (by omega)]; simp
    · have hm := List.mem_range.1 hm
      dsimp only
      by_cases hmn : m < n
      · rw [if_pos hmn, (get m hmn).2, unitV_sym]; simp
      · rw [if_neg hmn, unitV_ne (by omega)]; simp
  · intro h
    refine unitB_yes fun i hi => ?_
    have get : ∀ m, m < n → couA p n U C m i = unitV i m ∧ couB p n U C m i = unitV i m := fun m hm => by
      have := h m hm
      simp only [couOk, Bool.and_eq_true] at this
      have h1 := allEq_get this.1 (show i < 8 by omega)
      have h2 := allEq_get this.2 (show i < 8 by omega)
      rw [if_pos hi] at h2
      rw [unitV_sym i m]
      exact ⟨h1, h2⟩
    simp only [unitOk, Bool.and_eq_true]
    refine ⟨List.all_eq_true.2 fun m hm => ?_, List.all_eq_true.2 fun m hm => ?_⟩
    · have hm := List.mem_range.1 hm
      rw [right_cou hV (by omega) hm]
      by_cases hmn : m < n
      · rw [(get m hmn).1]; simp
      · rw [couA_zero hV hm (by omega) (by omega), unitV_ne (by omega)]; simp
    · have hm := List.mem_range.1 hm
      rw [left_cou hV (by omega) hm]
      by_cases hmn : m < n
      · rw [(get m hmn).2]; simp
      · rw [couB_zero hV hm (by omega) (by omega), unitV_ne (by omega)]; simp
end
end Go.Proofs.YtjanlnngeklhoabGreat

/- Dual tables: the program's loops and the model's. -/
set_option linter.unusedVariables false
set_option linter.unusedSimpArgs false
set_option maxRecDepth 100000
namespace Go.Proofs.YtjanlnngeklhoabGreat
open M

theorem dualAlgebra_s (p n : Int) (U C : Nat → Int) : Spec Tryz.prog 78 [algV p n U C] [] (Ret (algV p n U (dualF C))) := by
  refine Spec.ret rfl (Spec.of_vc tabOK tabEq Tryz.func78 rfl (by kernel_rfl) rfl rfl ?_)
  (repeat (first | refine And.intro (by omega) ?_ | refine And.intro ⟨by omega, by omega⟩ ?_))
  have hz : SV.eqv (algV 0 0 (fun _ => 0) fun _ => 0) (algV 0 0 (fun _ => 0) fun _ => 0) := algR _ _ _ _
  refine LoopVC.of (fun i : Nat => i ≤ 8) (fun i => [(2, .ptr 1 [] 0 0), (3, .ptr 2 [] 0 0), (18, .ints .u8 512 C), (19, .int .i64 i)])
    (fun i => [none, some (algV 0 0 (fun _ => 0) (fun _ => 0), 522), some (algV p n U (fun q => if q % 8 < i then dualF C q else 0), 522)]) (fun i => 8 - i) 0 (by omega) ?_ ?_ ?_
  · exact And.intro rfl (And.intro rfl (And.intro (rowEq fun _ _ => rfl) (And.intro rfl trivial)))
  · exact And.intro (And.intro hz rfl) (And.intro (And.intro (And.intro rfl (And.intro rfl (And.intro (rowEq fun _ _ => rfl) (And.intro (rowEq fun q _ => by simp) rfl)))) rfl) trivial)
  · intro i hi
    refine ifVC_split (fun h => ?_) (fun h => ?_)
    · have hlti := of_decide_eq_true h
      have hidx : (i : Int).toNat = i := by omega
      (repeat (first | refine And.intro (by omega) ?_ | refine And.intro ⟨by omega, by omega⟩ ?_))
      refine LoopVC.of (fun j : Nat => j ≤ 8) (fun j => [(2, .ptr 1 [] 0 0), (3, .ptr 2 [] 0 0), (4, .int .i64 i), (18, .ints .u8 512 C), (19, .int .i64 i), (23, .ints .u8 64 fun q => C (q + i * 64)), (24, .int .i64 j)])
        (fun j => [none, some (algV 0 0 (fun _ => 0) (fun _ => 0), 522), some (algV p n U (fun q => if q % 8 < i ∨ (q % 8 = i ∧ q / 64 < j) then dualF C q else 0), 522), none]) (fun j => 8 - j) 0 (by omega) ?_ ?_ ?_
      · exact And.intro rfl (And.intro rfl (And.intro rfl (And.intro (rowEq fun _ _ => rfl) (And.intro rfl (And.intro (rowEq fun q hq => by show updR _ 0 64 _ (q + 0) = _; simp [updR, hq]) (And.intro rfl trivial))))))
      · exact And.intro (And.intro hz rfl) (And.intro (And.intro (And.intro rfl (And.intro rfl (And.intro (rowEq fun _ _ => rfl) (And.intro (rowEq fun q _ => by simp) rfl)))) rfl) trivial)
      · intro j hj
        refine ifVC_split (fun h => ?_) (fun h => ?_)
        · have hltj := of_decide_eq_true h
          have hjdx : (j : Int).toNat = j := by omega
          (repeat (first | refine And.intro (by omega) ?_ | refine And.intro ⟨by omega, by omega⟩ ?_))
          refine LoopVC.of (fun k : Nat => k ≤ 8) (fun k => [(2, .ptr 1 [] 0 0), (3, .ptr 2 [] 0 0), (4, .int .i64 i), (6, .int .i64 j), (18, .ints .u8 512 C), (19, .int .i64 i), (23, .ints .u8 64 fun q => C (q + i * 64)), (24, .int .i64 j), (28, .ints .u8 8 fun q => C (q + j * 8 + i * 64)), (29, .int .i64 k)])
            (fun k => [none, some (algV 0 0 (fun _ => 0) (fun _ => 0), 522), some (algV p n U (fun q => if q % 8 < i ∨ (q % 8 = i ∧ (q / 64 < j ∨ (q / 64 = j ∧ q / 8 % 8 < k))) then dualF C q else 0), 522), none, none]) (fun k => 8 - k) 0 (by omega) ?_ ?_ ?_
          · exact And.intro rfl (And.intro rfl (And.intro rfl (And.intro rfl (And.intro (rowEq fun _ _ => rfl) (And.intro rfl (And.intro (rowEq fun _ _ => rfl) (And.intro rfl (And.intro (rowEq fun q hq => by show updR _ 0 8 _ (q + 0) = _; simp [updR, hq]) (And.intro rfl trivial)))))))))
          · exact And.intro (And.intro hz rfl) (And.intro (And.intro (And.intro rfl (And.intro rfl (And.intro (rowEq fun _ _ => rfl) (And.intro (rowEq fun q _ => by simp) rfl)))) rfl) trivial)
          · intro k hk
            refine ifVC_split (fun h => ?_) (fun h => ?_)
            · have hltk := of_decide_eq_true h
              have hkdx : (k : Int).toNat = k := by omega
              (repeat (first | refine And.intro (by omega) ?_ | refine And.intro ⟨by omega, by omega⟩ ?_))
              refine Exists.intro (k + 1) (And.intro (by omega) (And.intro (by omega) (And.intro (And.intro rfl (And.intro rfl (And.intro rfl (And.intro rfl (And.intro (rowEq fun _ _ => rfl) (And.intro rfl (And.intro (rowEq fun _ _ => rfl) (And.intro rfl (And.intro (rowEq fun _ _ => rfl) (And.intro (slotI (wrapS (by omega))) trivial)))))))))) ?_)))
              refine And.intro (And.intro hz rfl) (And.intro (And.intro (And.intro rfl (And.intro rfl (And.intro (rowEq fun _ _ => rfl) (And.intro (rowEq fun q hq => ?_) rfl)))) rfl) trivial)
              show upd1 _ ((i : Int).toNat * 1 + ((k : Int).toNat * 8 + ((j : Int).toNat * 64 + 0))) _ q = _
              unfold upd1
              rw [hidx, hjdx, hkdx]
              dsimp only
              by_cases h1 : q = i * 1 + (k * 8 + (j * 64 + 0))
              · rw [if_pos h1, if_pos (by omega)]
                unfold dualF
                show C _ = C _
                congr 1
                omega
              · rw [if_neg h1]
                by_cases h2 : q % 8 < i ∨ (q % 8 = i ∧ (q / 64 < j ∨ (q / 64 = j ∧ q / 8 % 8 < k)))
                · rw [if_pos h2, if_pos (by omega)]
                · rw [if_neg h2, if_neg (by omega)]
            · have hge := of_decide_eq_false h
              obtain rfl : k = 8 := by omega
              refine Exists.intro (j + 1) (And.intro (by omega) (And.intro (by omega) (And.intro (And.intro rfl (And.intro rfl (And.intro rfl (And.intro (rowEq fun _ _ => rfl) (And.intro rfl (And.intro (rowEq fun _ _ => rfl) (And.intro (slotI (wrapS (by omega))) trivial))))))) ?_)))
              refine And.intro (And.intro hz rfl) (And.intro (And.intro (And.intro rfl (And.intro rfl (And.intro (rowEq fun _ _ => rfl) (And.intro (rowEq fun q hq => ?_) rfl)))) rfl) trivial)
              by_cases h2 : q % 8 < i ∨ (q % 8 = i ∧ (q / 64 < j ∨ (q / 64 = j ∧ q / 8 % 8 < 8)))
              · rw [if_pos h2, if_pos (by omega)]
              · rw [if_neg h2, if_neg (by omega)]
        · have hge := of_decide_eq_false h
          obtain rfl : j = 8 := by omega
          refine Exists.intro (i + 1) (And.intro (by omega) (And.intro (by omega) (And.intro (And.intro rfl (And.intro rfl (And.intro (rowEq fun _ _ => rfl) (And.intro (slotI (wrapS (by omega))) trivial)))) ?_)))
          refine And.intro (And.intro hz rfl) (And.intro (And.intro (And.intro rfl (And.intro rfl (And.intro (rowEq fun _ _ => rfl) (And.intro (rowEq fun q hq => ?_) rfl)))) rfl) trivial)
          by_cases h2 : q % 8 < i ∨ (q % 8 = i ∧ q / 64 < 8)
          · rw [if_pos h2, if_pos (by omega)]
          · rw [if_neg h2, if_neg (by omega)]
    · have hge := of_decide_eq_false h
      obtain rfl : i = 8 := by omega
      (repeat (first | refine And.intro (by omega) ?_ | refine And.intro ⟨by omega, by omega⟩ ?_))
      refine And.intro rfl (And.intro rfl (And.intro (rowEq fun _ _ => rfl) (And.intro (rowEq fun q hq => ?_) rfl)))
      rw [if_pos (by omega)]

/-- the table of the dual coalgebra -/
def codF (T : Nat → Int) : Nat → Int := fun q => T ((q / 8 % 8) * 64 + (q % 8) * 8 + q / 64)

end Go.Proofs.YtjanlnngeklhoabGreat

/- The model's check of coalgebras, and the program's. -/
set_option linter.unusedVariables false
set_option linter.unusedSimpArgs false
set_option maxRecDepth 100000
namespace Go.Proofs.YtjanlnngeklhoabGreat
open M

theorem l02Shape_s (p n : Int) (U C : Nat → Int) (hU : isU8 8 U) (hC : isU8 512 C) : Spec Tryz.prog 113 [algV p n U C] [] (Ret (.bool (shapeB p n U C))) := by
  refine Spec.ret rfl (Spec.of_vc tabOK tabEq Tryz.func113 rfl (by kernel_rfl) rfl rfl ?_)
  refine And.intro trivial (Spec.mono (l01Sizes_s p n) ?_)
  rintro r m ⟨rfl, rfl⟩
  refine ifVC_split (fun hv => ?_) (fun hv => ?_)
  · refine And.intro (by omega) ?_
    refine And.intro trivial (Spec.mono (l01Vector_s p n _ (fun j hj => hU _ (by omega))) ?_)
    rintro r m ⟨rfl, rfl⟩
    refine ifVC_split (fun hw => ?_) (fun hw => ?_)
    · have hw : entriesB p n U = true := hw
      refine And.intro (by omega) ?_
      refine And.intro trivial (Spec.mono (l01Table_s p n _ (fun j hj => hC _ (by omega))) ?_)
      rintro r m ⟨rfl, rfl⟩
      exact boolEq (by simp [shapeB, vectorB, hv, hw])
    · have hw : entriesB p n U = false := hw
      exact boolEq (by simp [shapeB, vectorB, hv, hw])
  · exact boolEq (by simp [shapeB, vectorB, hv])

theorem vec_u8 {C : Nat → Int} (h : isU8 512 C) {i j k : Nat} (hi : i < 8) (hj : j < 8) (hk : k < 8) : 0 ≤ vecT C i j k ∧ vecT C i j k < 256 := h _ (by omega)

theorem l02Sums_s (p : Int) (n : Nat) (U C : Nat → Int) (i j k l : Nat) (hp : 0 < p ∧ p < 256) (hn : n ≤ 8) (hC : isU8 512 C) (hi : i < 8) (hj : j < 8) (hk : k < 8) (hl : l < 8) :
    Spec Tryz.prog 119 [algV p n U C, .int .i64 i, .int .i64 j, .int .i64 k, .int .i64 l] [] (Ret (.tcons (.int .u8 (coL n C i j k l % p)) (.tcons (.int .u8 (coR n C i j k l % p)) .tnil))) := by
  refine Spec.ret rfl (Spec.of_vc tabOK tabEq Tryz.func119 rfl (by kernel_rfl) rfl rfl ?_)
  have bL : ∀ a, a ≤ n → 0 ≤ coL a C i j k l ∧ coL a C i j k l ≤ 65025 * a := fun a ha => sum_bound a fun b hb => mulB (vec_u8 hC hi (by omega) hl) (vec_u8 hC (by omega) hj hk)
  have bR : ∀ a, a ≤ n → 0 ≤ coR a C i j k l ∧ coR a C i j k l ≤ 65025 * a := fun a ha => sum_bound a fun b hb => mulB (vec_u8 hC hi hj (by omega)) (vec_u8 hC (by omega) hk hl)
  refine LoopVC.of (fun a : Nat => a ≤ n) (fun a => [(1, .int .i64 i), (2, .int .i64 j), (3, .int .i64 k), (4, .int .i64 l), (5, .ptr 0 [] 0 0), (12, .int .i64 (coL a C i j k l)), (13, .int .i64 (coR a C i j k l)), (14, .int .i64 a)])
    (fun _ => [some (algV p n U C, 522)]) (fun a => n - a) 0 (by omega) ?_ ?_ ?_
  · exact (And.intro rfl (And.intro rfl (And.intro rfl (And.intro rfl (And.intro rfl (And.intro rfl (And.intro rfl (And.intro rfl (trivial)))))))))
  · exact And.intro (And.intro (algR p n U C) rfl) trivial
  · intro a ha
    refine ifVC_split (fun h => ?_) (fun h => ?_)
    · have hlt := of_decide_eq_true h
      have e1 := bL a ha
      have e2 := bR a ha
      have v1 := vec_u8 hC hi (show a < 8 by omega) hl
      have v2 := vec_u8 hC (show a < 8 by omega) hj hk
      have v3 := vec_u8 hC hi hj (show a < 8 by omega)
      have v4 := vec_u8 hC (show a < 8 by omega) hk hl
      have m1 := mulB v1 v2
      have m2 := mulB v3 v4
      refine Exists.intro 21 (And.intro (by kernel_rfl) ?_)
      (repeat (first | refine And.intro (by omega) ?_ | refine And.intro ⟨by omega, by omega⟩ ?_))
      refine Exists.intro 21 (And.intro (by kernel_rfl) ?_)
      (repeat (first | refine And.intro (by omega) ?_ | refine And.intro ⟨by omega, by omega⟩ ?_))
      have f1 : C ((l : Int).toNat * 1 + ((a : Int).toNat * 8 + ((i : Int).toNat * 64 + 0))) = vecT C i a l := by simp only [Int.toNat_natCast]; unfold vecT; congr 1; omega
      have f2 : C ((k : Int).toNat * 1 + ((j : Int).toNat * 8 + ((a : Int).toNat * 64 + 0))) = vecT C a j k := by simp only [Int.toNat_natCast]; unfold vecT; congr 1; omega
      have f3 : C ((a : Int).toNat * 1 + ((j : Int).toNat * 8 + ((i : Int).toNat * 64 + 0))) = vecT C i j a := by simp only [Int.toNat_natCast]; unfold vecT; congr 1; omega
      have f4 : C ((l : Int).toNat * 1 + ((k : Int).toNat * 8 + ((a : Int).toNat * 64 + 0))) = vecT C a k l := by simp only [Int.toNat_natCast]; unfold vecT; congr 1; omega
      refine Exists.intro (a + 1) (And.intro (by omega) (And.intro (by omega) (And.intro (And.intro rfl (And.intro rfl (And.intro rfl (And.intro rfl (And.intro rfl (And.intro (slotI ?_) (And.intro (slotI ?_) (And.intro (slotI (wrapS (by omega))) trivial)))))))) ?_)))
      · rw [f1, f2, wrapI (x := vecT C i a l) (by omega), wrapI (x := vecT C a j k) (by omega), wrapI (x := vecT C i a l * vecT C a j k) (by omega), wrapI (by omega)]
        rfl
      · rw [f3, f4, wrapI (x := vecT C i j a) (by omega), wrapI (x := vecT C a k l) (by omega), wrapI (x := vecT C i j a * vecT C a k l) (by omega), wrapI (by omega)]
        rfl
      · exact And.intro (And.intro (algR p n U C) rfl) trivial
    · have hge := of_decide_eq_false h
      obtain rfl : a = n := by omega
      have e1 := bL a (Nat.le_refl _)
      have e2 := bR a (Nat.le_refl _)
      refine Exists.intro 9 (And.intro (by kernel_rfl) ?_)
      refine Exists.intro (.int .u8 (coL a C i j k l % p)) (And.intro (And.intro rfl (And.intro rfl (Spec.mono (l01Mod_s p _ hp (by omega)) fun r m h => h.1))) ?_)
      refine Exists.intro (.int .u8 (coR a C i j k l % p)) (And.intro (And.intro rfl (And.intro rfl (Spec.mono (l01Mod_s p _ hp (by omega)) fun r m h => h.1))) ?_)
      exact And.intro rfl (And.intro rfl rfl)

/-- the quadruple that is told -/
def coFaultAt (p : Int) (n : Nat) (C : Nat → Int) (g : Nat → Int) : Prop :=
  ∃ i j k l : Nat, i < n ∧ j < n ∧ k < n ∧ l < n ∧ coOk p n C i j k l = false ∧
    (∀ i' j' k' l', i' < n → j' < n → k' < n → l' < n → (i' < i ∨ (i' = i ∧ j' < j) ∨ (i' = i ∧ j' = j ∧ k' < k) ∨ (i' = i ∧ j' = j ∧ k' = k ∧ l' < l)) → coOk p n C i' j' k' l' = true) ∧ g 0 = i ∧ g 1 = j ∧ g 2 = k ∧ g 3 = l
def CoQ2 (p : Int) (n : Nat) (C : Nat → Int) (r : SV) (m : Mem) : Prop :=
  (coAss p n C ∧ r = .tcons .nilsl (.tcons (.bool false) .tnil)) ∨ ∃ id g, coFaultAt p n C g ∧ r = .tcons (.sl id 0 4 4) (.tcons (.bool true) .tnil) ∧ blockOf m id = some (.ints .i64 4 g, 4)
theorem CoQ2.yes {p : Int} {n : Nat} {C : Nat → Int} {m : Mem} (h : coAss p n C) : CoQ2 p n C (.tcons .nilsl (.tcons (.bool false) .tnil)) m := .inl ⟨h, rfl⟩
theorem CoQ2.no {p : Int} {n : Nat} {C g : Nat → Int} {m : Mem} {id : Nat} (h : coFaultAt p n C g) (hb : blockOf m id = some (.ints .i64 4 g, 4)) : CoQ2 p n C (.tcons (.sl id 0 4 4) (.tcons (.bool true) .tnil)) m := .inr ⟨id, g, h, rfl, hb⟩

/-- a number's four digits -/
def num (n i j k l : Nat) : Nat := ((i * n + j) * n + k) * n + l
theorem digit {n a b : Nat} (hb : b < n) : (a * n + b) / n = a ∧ (a * n + b) % n = b := by
  have hn : 0 < n := by omega
  constructor
  · rw [Nat.add_comm, Nat.add_mul_div_right _ _ hn, Nat.div_eq_of_lt hb, Nat.zero_add]
  · rw [Nat.add_comm, Nat.add_mul_mod_self_right, Nat.mod_eq_of_lt hb]
theorem digit_lt {n a b c d : Nat} (hb : b < n) (hd : d < n) : a * n + b < c * n + d ↔ a < c ∨ (a = c ∧ b < d) := by
  constructor
  · intro h
    rcases Nat.lt_trichotomy a c with h1 | h1 | h1
    · exact .inl h1
    · subst h1; exact .inr ⟨rfl, by omega⟩
    · have : (c + 1) * n ≤ a * n := Nat.mul_le_mul_right n h1
      rw [Nat.succ_mul] at this
      omega
  · rintro (h | ⟨rfl, h⟩)
    · have : (a + 1) * n ≤ c * n := Nat.mul_le_mul_right n h
      rw [Nat.succ_mul] at this
      omega
    · omega
theorem num_digits {n m : Nat} (hn : 0 < n) : num n (m / (n * n * n)) (m / (n * n) % n) (m / n % n) (m % n) = m := by
  unfold num
  have h1 : m / n * n + m % n = m := by rw [Nat.mul_comm]; exact Nat.div_add_mod m n
  have h2 : m / (n * n) * n + m / n % n = m / n := by rw [← Nat.div_div_eq_div_mul, Nat.mul_comm]; exact Nat.div_add_mod _ n
  have h3 : m / (n * n * n) * n + m / (n * n) % n = m / (n * n) := by rw [← Nat.div_div_eq_div_mul, Nat.mul_comm]; exact Nat.div_add_mod _ n
  rw [h3, h2, h1]
theorem num_of {n i j k l : Nat} (hj : j < n) (hk : k < n) (hl : l < n) : num n i j k l / (n * n * n) = i ∧ num n i j k l / (n * n) % n = j ∧ num n i j k l / n % n = k ∧ num n i j k l % n = l := by
  have d1 := digit (a := (i * n + j) * n + k) hl
  have d2 := digit (a := i * n + j) hk
  have d3 := digit (a := i) hj
  unfold num
  refine ⟨?_, ?_, ?_, d1.2⟩
  · rw [← Nat.div_div_eq_div_mul, ← Nat.div_div_eq_div_mul, d1.1, d2.1, d3.1]
  · rw [← Nat.div_div_eq_div_mul, d1.1, d2.1, d3.2]
  · rw [d1.1, d2.2]
theorem num_lt {n i j k l i' j' k' l' : Nat} (hj : j < n) (hk : k < n) (hl : l < n) (hj' : j' < n) (hk' : k' < n) (hl' : l' < n) :
    num n i' j' k' l' < num n i j k l ↔ (i' < i ∨ (i' = i ∧ j' < j) ∨ (i' = i ∧ j' = j ∧ k' < k) ∨ (i' = i ∧ j' = j ∧ k' = k ∧ l' < l)) := by
  unfold num
  rw [digit_lt hl' hl, digit_lt hk' hk]
  constructor
  · rintro (h | ⟨h, h4⟩)
    · rcases h with h | ⟨h, h3⟩
      · rcases (digit_lt hj' hj).1 h with h5 | ⟨h5, h6⟩
        · exact .inl h5
        · exact .inr (.inl ⟨h5, h6⟩)
      · have e1 := digit (a := i') hj'
        have e2 := digit (a := i) hj
        rw [h] at e1
        have a1 : i' = i := by rw [← e1.1, e2.1]
        have a2 : j' = j := by rw [← e1.2, e2.2]
        exact .inr (.inr (.inl ⟨a1, a2, h3⟩))
    · have c1 := digit (a := i' * n + j') hk'
      have c2 := digit (a := i * n + j) hk
      rw [h] at c1
      have a3 : k' = k := by rw [← c1.2, c2.2]
      have h : i' * n + j' = i * n + j := by rw [← c1.1, c2.1]
      have e1 := digit (a := i') hj'
      have e2 := digit (a := i) hj
      rw [h] at e1
      have a1 : i' = i := by rw [← e1.1, e2.1]
      have a2 : j' = j := by rw [← e1.2, e2.2]
      exact .inr (.inr (.inr ⟨a1, a2, a3, h4⟩))
  · rintro (h | ⟨rfl, h⟩ | ⟨rfl, rfl, h⟩ | ⟨rfl, rfl, rfl, h⟩)
    · exact .inl (.inl ((digit_lt hj' hj).2 (.inl h)))
    · exact .inl (.inl ((digit_lt hj' hj).2 (.inr ⟨rfl, h⟩)))
    · exact .inl (.inr ⟨rfl, h⟩)
    · exact .inr ⟨rfl, h⟩
theorem num_max {n i j k l : Nat} (hi : i < n) (hj : j < n) (hk : k < n) (hl : l < n) : num n i j k l < n * n * n * n := by
  unfold num
  have s1 : (i + 1) * n ≤ n * n := Nat.mul_le_mul_right n hi
  rw [Nat.succ_mul] at s1
  have s2 : (i * n + j + 1) * n ≤ n * n * n := Nat.mul_le_mul_right n (by omega)
  rw [Nat.succ_mul] at s2
  have s3 : ((i * n + j) * n + k + 1) * n ≤ n * n * n * n := Nat.mul_le_mul_right n (by omega)
  rw [Nat.succ_mul] at s3
  omega
theorem max4 {n : Nat} (hn : n ≤ 8) : n * n ≤ 64 ∧ n * n * n ≤ 512 ∧ n * n * n * n ≤ 4096 := by
  have a : n * n ≤ 8 * 8 := Nat.mul_le_mul hn hn
  have b : n * n * n ≤ 8 * 8 * 8 := Nat.mul_le_mul a hn
  have c : n * n * n * n ≤ 8 * 8 * 8 * 8 := Nat.mul_le_mul b hn
  omega

/-- the quadruple with the number m is no fault -/
def numOk (p : Int) (n : Nat) (C : Nat → Int) (m : Nat) : Bool := coOk p n C (m / (n * n * n)) (m / (n * n) % n) (m / n % n) (m % n)

theorem coFault_mk {p : Int} {n m : Nat} {C g : Nat → Int} (h1n : 1 ≤ n) (hlt : m < n * n * n * n) (hall : ∀ m', m' < m → numOk p n C m' = true) (hc : numOk p n C m = false)
    (g0 : g 0 = ((m / (n * n * n) : Nat) : Int)) (g1 : g 1 = ((m / (n * n) % n : Nat) : Int)) (g2 : g 2 = ((m / n % n : Nat) : Int)) (g3 : g 3 = ((m % n : Nat) : Int)) : coFaultAt p n C g := by
  have p3 : 0 < n * n * n := Nat.mul_pos (Nat.mul_pos h1n h1n) h1n
  have b1 : m / (n * n * n) < n := by rw [Nat.div_lt_iff_lt_mul p3, Nat.mul_comm n (n * n * n)]; omega
  have b2 : m / (n * n) % n < n := Nat.mod_lt _ h1n
  have b3 : m / n % n < n := Nat.mod_lt _ h1n
  have b4 : m % n < n := Nat.mod_lt _ h1n
  refine ⟨_, _, _, _, b1, b2, b3, b4, hc, fun i' j' k' l' h1 h2 h3 h4 h5 => ?_, g0, g1, g2, g3⟩
  have hlt' := (num_lt b2 b3 b4 h2 h3 h4).2 h5
  rw [num_digits h1n] at hlt'
  have := hall _ hlt'
  obtain ⟨e1, e2, e3, e4⟩ := num_of (i := i') h2 h3 h4
  unfold numOk at this
  rw [e1, e2, e3, e4] at this
  exact this

theorem natMul (a b : Nat) : (a : Int) * (b : Int) = ((a * b : Nat) : Int) := by simp
theorem wrapN {a : Nat} (h : a ≤ 1000000000) : IntKind.i64.wrap (a : Int) = a := wrapI (by omega)

theorem l02Fault_s (p : Int) (n : Nat) (U C : Nat → Int) (hp : 0 < p ∧ p < 256) (hn : n ≤ 8) (h1n : 1 ≤ n) (hC : isU8 512 C) :
    Spec Tryz.prog 114 [algV p n U C] [] (CoQ2 p n C) := by
  refine (Spec.of_vc tabOK tabEq Tryz.func114 rfl (by kernel_rfl) rfl rfl ?_)
  obtain ⟨m2, m3, m4⟩ := max4 hn
  have p2 : 0 < n * n := Nat.mul_pos h1n h1n
  have p3 : 0 < n * n * n := Nat.mul_pos p2 h1n
  have w2 : IntKind.i64.wrap ((n : Int) * n) = ((n * n : Nat) : Int) := by rw [natMul, wrapN (by omega)]
  have w3 : IntKind.i64.wrap (((n * n : Nat) : Int) * n) = ((n * n * n : Nat) : Int) := by rw [natMul, wrapN (by omega)]
  have w4 : IntKind.i64.wrap (((n * n * n : Nat) : Int) * n) = ((n * n * n * n : Nat) : Int) := by rw [natMul, wrapN (by omega)]
  refine LoopVC.of (fun m : Nat => m ≤ n * n * n * n ∧ ∀ m', m' < m → numOk p n C m' = true) (fun m => [(1, .ptr 0 [] 0 0), (2, .nilsl), (3, .bool false), (4, .int .i64 n), (5, .int .i64 m)])
    (fun _ => [some (algV p n U C, 522)]) (fun m => n * n * n * n - m) 0 ⟨by omega, fun m' h => by omega⟩ ?_ ?_ ?_
  · exact (And.intro rfl (And.intro rfl (And.intro rfl (And.intro rfl (And.intro rfl (trivial))))))
  · exact And.intro (And.intro (algR p n U C) rfl) trivial
  · rintro m ⟨hm, hall⟩
    refine ifVC_split (fun h => ?_) (fun h => ?_)
    · have hlt : m < n * n * n * n := by
        have h := of_decide_eq_true h
        rw [w2, w3, w4] at h
        omega
      have b1 : m / (n * n * n) < n := by rw [Nat.div_lt_iff_lt_mul p3, Nat.mul_comm n (n * n * n)]; omega
      have b2 : m / (n * n) % n < n := Nat.mod_lt _ h1n
      have b3 : m / n % n < n := Nat.mod_lt _ h1n
      have b4 : m % n < n := Nat.mod_lt _ h1n
      have q3 : IntKind.i64.wrap ((m : Int).tdiv ((n * n * n : Nat) : Int)) = ((m / (n * n * n) : Nat) : Int) := by
        rw [Int.tdiv_eq_ediv_of_nonneg (by omega), ← Int.natCast_ediv, wrapN (by omega)]
      have q2 : IntKind.i64.wrap ((m : Int).tdiv ((n * n : Nat) : Int)) = ((m / (n * n) : Nat) : Int) := by
        have := Nat.div_le_self m (n * n)
        rw [Int.tdiv_eq_ediv_of_nonneg (by omega), ← Int.natCast_ediv, wrapN (by omega)]
      have q1 : IntKind.i64.wrap ((m : Int).tdiv (n : Int)) = ((m / n : Nat) : Int) := by
        have := Nat.div_le_self m n
        rw [Int.tdiv_eq_ediv_of_nonneg (by omega), ← Int.natCast_ediv, wrapN (by omega)]
      have r : ∀ a : Nat, (a : Int).tmod (n : Int) = ((a % n : Nat) : Int) := fun a => by rw [Int.tmod_eq_emod_of_nonneg (by omega), ← Int.natCast_emod]
      have call : ∀ a b c d : Int, a = ((m / (n * n * n) : Nat) : Int) → b = ((m / (n * n) % n : Nat) : Int) → c = ((m / n % n : Nat) : Int) → d = ((m % n : Nat) : Int) → Spec Tryz.prog 119 [algV p n U C, .int .i64 a, .int .i64 b, .int .i64 c, .int .i64 d] []
          (Ret (.tcons (.int .u8 (coL n C (m / (n * n * n)) (m / (n * n) % n) (m / n % n) (m % n) % p)) (.tcons (.int .u8 (coR n C (m / (n * n * n)) (m / (n * n) % n) (m / n % n) (m % n) % p)) .tnil))) := by
        rintro a b c d rfl rfl rfl rfl
        exact l02Sums_s p n U C _ _ _ _ hp hn hC (by omega) (by omega) (by omega) (by omega)
      refine Exists.intro 25 (And.intro (by kernel_rfl) ?_)
      refine And.intro (by rw [w2, w3]; omega) ?_
      refine And.intro (by rw [w2]; omega) ?_
      (repeat (first | refine And.intro (by omega) ?_ | refine And.intro ⟨by omega, by omega⟩ ?_))
      refine And.intro trivial (Spec.mono (call _ _ _ _ (by rw [w2, w3, q3]) (by rw [w2, q2, r]) (by rw [q1, r]) (by rw [r])) ?_)
      rintro r' m' ⟨rfl, rfl⟩
      refine ifVC_split (fun hc => ?_) (fun hc => ?_)
      · have hc : numOk p n C m = false := by
          have hc := hc
          simp only [bne_iff_ne, ne_eq] at hc
          simp [numOk, coOk, hc]
        exact CoQ2.no (coFault_mk h1n hlt hall hc (by rw [← q3, ← w3, ← w2]; rfl) (by rw [← r, ← q2, ← w2]; rfl) (by rw [← r, ← q1]; rfl) (by rw [← r]; rfl)) rfl
      · have hc : numOk p n C m = true := by
          have hc := hc
          simp only [bne_eq_false_iff_eq] at hc
          simp [numOk, coOk, hc]
        refine Exists.intro (m + 1) (And.intro ⟨by omega, fun m' hm' => ?_⟩ (And.intro (by omega) (And.intro ?_ ?_)))
        · by_cases hmm : m' = m
          · subst hmm; exact hc
          · exact hall m' (by omega)
        · exact And.intro rfl (And.intro rfl (And.intro rfl (And.intro rfl (And.intro (slotI (wrapS (by omega))) trivial))))
        · exact And.intro (And.intro (algR p n U C) rfl) trivial
    · have hge : ¬ m < n * n * n * n := by
        have h := of_decide_eq_false h
        rw [w2, w3, w4] at h
        omega
      refine CoQ2.yes fun i j k l hi hj hk hl => ?_
      have := hall (num n i j k l) (by have := num_max hi hj hk hl; omega)
      obtain ⟨e1, e2, e3, e4⟩ := num_of (i := i) hj hk hl
      unfold numOk at this
      rw [e1, e2, e3, e4] at this
      exact this
end Go.Proofs.YtjanlnngeklhoabGreat
