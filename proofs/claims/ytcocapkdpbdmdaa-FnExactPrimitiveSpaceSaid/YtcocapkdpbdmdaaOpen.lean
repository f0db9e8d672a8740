/- Arguments that hold numbers alone: what they read as does not hang on memory; and their cells as plain data. -/
import Derived.Test.YtcocapkdpbdmdaaLogB
import Derived.Test.YtcocapkdpbdmdaaLogB
import Derived.ProofKit
import Derived.OpenShut
set_option linter.unusedVariables false
set_option linter.unusedSimpArgs false
namespace Go.Proofs.Ytcocapkdpbdmdaa
variable {P : Program} {H : Type} {enc : TypeId × Value → H}

/-- a type of numbers and bools alone -/
def pureT (P : Program) : Nat → TypeId → Bool
  | 0, _ => false
  | d + 1, t => match P.underlying t with
    | some (.int _) | some .bool => true
    | some (.array _ e) => pureT P d e
    | some (.struct fs) => fs.toList.all fun f => pureT P d f.type
    | _ => false

theorem mapM_congr' {α β : Type} {f g : α → Option β} : ∀ (l : List α), (∀ x ∈ l, f x = g x) → l.mapM f = l.mapM g
  | [], _ => rfl
  | x :: r, h => by
    simp only [List.mapM_cons]
    rw [h x (by simp), mapM_congr' r fun y hy => h y (by simp [hy])]

theorem trod_any : ∀ (d : Nat) (t : TypeId), pureT P d t = true → ∀ (fuel : Nat) (cs : List Value) (w w' : World) (b b' : Nat) (sp sp' : Nat → Bool) (hd hd' : Bool),
    DataW.trod enc P w b sp hd fuel t cs = DataW.trod enc P w' b' sp' hd' fuel t cs
  | 0, t, h, _, _, _, _, _, _, _, _, _, _ => by cases h
  | d + 1, t, h, 0, _, _, _, _, _, _, _, _, _ => rfl
  | d + 1, t, h, fuel + 1, cs, w, w', b, b', sp, sp', hd, hd' => by
    unfold pureT at h
    unfold DataW.trod
    split at h
    · rename_i k hk; rw [hk]; rcases cs with _ | ⟨c, _ | ⟨c2, r⟩⟩ <;> (try cases c) <;> rfl
    · rename_i hk; rw [hk]; rcases cs with _ | ⟨c, _ | ⟨c2, r⟩⟩ <;> (try cases c) <;> rfl
    · rename_i n e hk
      rw [hk]
      simp only
      split
      · congr 1
        refine mapM_congr' _ fun i _ => ?_
        exact trod_any d e h fuel _ w w' b b' sp sp' hd hd'
      · rfl
    · rename_i fs hk
      rw [hk]
      simp only
      split
      · congr 1
        refine mapM_congr' _ fun f hf => ?_
        exact trod_any d f.type (List.all_eq_true.1 h f hf) fuel _ w w' b b' sp sp' hd hd'
      · rfl
    · cases h

/-- such an argument reads in every world as it reads in one -/
theorem Trod_any {d : Nat} {t : TypeId} (h : pureT P d t = true) {w w' : World} {b b' : Nat} {sp sp' : Nat → Bool} {hd hd' : Bool} {v : Value} {x : DataW H} {ps : List MemPlace}
    (ht : DataW.Trod enc P w b sp hd t v x ps) : DataW.Trod enc P w' b' sp' hd' t v x ps := by
  obtain ⟨fuel, hf⟩ := ht
  exact ⟨fuel, by rw [← hf]; exact trod_any d t h fuel _ _ _ _ _ _ _ _ _⟩
theorem cellsOf_of {t n : Nat} (h : (P.info? t).map (·.size) = some n) : P.cellsOf t = n := by
  unfold Program.cellsOf; rw [h]; rfl

theorem trod_int_cell {w : World} {b fuel : Nat} {sp : Nat → Bool} {hd : Bool} {t : TypeId} {k : IntKind} {cs : List Value} {x : DataW H × List MemPlace} (ht : P.underlying t = some (.int k))
    (h : DataW.trod enc P w b sp hd fuel t cs = some x) : ∃ q, cs = [.int k q] ∧ (Lit.int k q).wf = true ∧ x.2 = [] := by
  obtain ⟨n, h1, h2, h3⟩ := DataW.trod_int ht h
  exact ⟨n, h1, h3, by rw [h2]⟩

theorem flatMap_nil' {α β : Type} {f : α → List β} : ∀ (l : List α), (∀ x ∈ l, f x = []) → l.flatMap f = []
  | [], _ => rfl
  | x :: r, h => by simp [h x (by simp), flatMap_nil' r fun y hy => h y (by simp [hy])]

theorem open_row {w : World} {b : Nat} {sp : Nat → Bool} {hd : Bool} {t : TypeId} {k : IntKind} {n d : Nat} (hr : RowT P t k n d) : ∀ (fuel : Nat) (cs : List Value) (x : DataW H × List MemPlace), (P.info? t).map (·.size) = some n →
    DataW.trod enc P w b sp hd fuel t cs = some x → cs.length = n ∧ (∀ j, j < n → ∃ q, cs[j]? = some (.int k q) ∧ (Lit.int k q).wf = true) ∧ x.2 = [] := by
  induction hr with
  | @one t e k len h he hs =>
    intro fuel cs x hsz ht
    obtain ⟨xs, m, rfl, rfl, hl, hxl, hx⟩ := Go.DataW.trod_array h ht
    rw [cellsOf_of hsz] at hl
    rw [cellsOf_of hs] at hx
    have each : ∀ j, j < len → ∃ q, cs[j]? = some (.int k q) ∧ (Lit.int k q).wf = true ∧ ∀ y, xs[j]? = some y → y.2 = [] := fun j hj => by
      have hxj := hx j hj
      have hxs : xs[j]? = some xs[j] := List.getElem?_eq_getElem (by omega)
      rw [hxs] at hxj
      obtain ⟨q, h1, h2, h3⟩ := trod_int_cell he hxj
      refine ⟨q, ?_, h2, fun y hy => by rw [hxs] at hy; cases hy; exact h3⟩
      have := congrArg (·[0]?) h1
      simp only [Nat.mul_one, List.getElem?_cons_zero] at this
      rw [List.getElem?_take_of_lt (by omega), List.getElem?_drop] at this
      simpa using this
    refine ⟨hl, fun j hj => let ⟨q, h1, h2, _⟩ := each j hj; ⟨q, h1, h2⟩, ?_⟩
    refine flatMap_nil' _ fun y hy => ?_
    obtain ⟨j, hj⟩ := List.mem_iff_getElem?.1 hy
    obtain ⟨_, _, _, h3⟩ := each j (by rw [← hxl]; exact (List.getElem?_eq_some_iff.1 hj).1)
    exact h3 y hj
  | @more t e k len m d h he hs ih =>
    intro fuel cs x hsz ht
    obtain ⟨xs, g, rfl, rfl, hl, hxl, hx⟩ := Go.DataW.trod_array h ht
    rw [cellsOf_of hsz] at hl
    rw [cellsOf_of hs] at hx
    have each : ∀ i, i < len → (∀ j, j < m → ∃ q, cs[i * m + j]? = some (.int k q) ∧ (Lit.int k q).wf = true) ∧ ∀ y, xs[i]? = some y → y.2 = [] := fun i hi => by
      have hxi := hx i hi
      have hxs : xs[i]? = some xs[i] := List.getElem?_eq_getElem (by omega)
      rw [hxs] at hxi
      obtain ⟨h1, h2, h3⟩ := ih g _ _ hs hxi
      refine ⟨fun j hj => ?_, fun y hy => by rw [hxs] at hy; cases hy; exact h3⟩
      obtain ⟨q, hq, hw⟩ := h2 j hj
      rw [List.getElem?_take_of_lt hj, List.getElem?_drop] at hq
      exact ⟨q, hq, hw⟩
    refine ⟨hl, fun j hj => ?_, ?_⟩
    · have hm : 0 < m := Nat.pos_of_ne_zero (by rintro rfl; simp at hj)
      have h1 : j / m < len := (Nat.div_lt_iff_lt_mul hm).2 hj
      obtain ⟨q, hq, hw⟩ := (each (j / m) h1).1 (j % m) (Nat.mod_lt _ hm)
      rw [show j / m * m + j % m = j by rw [Nat.mul_comm]; exact Nat.div_add_mod j m] at hq
      exact ⟨q, hq, hw⟩
    · refine flatMap_nil' _ fun y hy => ?_
      obtain ⟨i, hi⟩ := List.mem_iff_getElem?.1 hy
      exact (each i (by rw [← hxl]; exact (List.getElem?_eq_some_iff.1 hi).1)).2 y hi

/-- the numbers of a row -/
def numAt (cs : List Value) (j : Nat) : Int := match cs[j]? with | some (.int _ q) => q | _ => 0

theorem row_cells {μ : Nat → Nat} {k : IntKind} {n : Nat} {cs : List Value} (hl : cs.length = n) (h : ∀ j, j < n → ∃ q, cs[j]? = some (.int k q) ∧ (Lit.int k q).wf = true) :
    cs = flat μ (.ints k n (numAt cs)) ∧ ∀ j, j < n → (Lit.int k (numAt cs j)).wf = true := by
  have hn : ∀ j, j < n → cs[j]? = some (.int k (numAt cs j)) ∧ (Lit.int k (numAt cs j)).wf = true := fun j hj => by
    obtain ⟨q, h1, h2⟩ := h j hj
    have : numAt cs j = q := by unfold numAt; rw [h1]
    rw [this]; exact ⟨h1, h2⟩
  refine ⟨List.ext_getElem? fun j => ?_, fun j hj => (hn j hj).2⟩
  by_cases hj : j < n
  · rw [(hn j hj).1, flat_ints_get μ k n _ j hj]
  · rw [List.getElem?_eq_none (by omega), List.getElem?_eq_none (by simp [flat]; omega)]

/-- an argument that is a row of numbers -/
theorem open_rowArg {w : World} {r : Reach} {b0 b : Nat} {sp : Nat → Bool} {hd : Bool} {t : TypeId} {k : IntKind} {n d : Nat} (hr : RowT P t k n d) (hsz : (P.info? t).map (·.size) = some n) {v : Value} {x : DataW H} {ps : List MemPlace}
    (hval : Value.okWide P w r b0 t v) (ht : DataW.Trod enc P w b sp hd t v x ps) : ∃ f : Nat → Int, (∀ μ, v = toVal μ (.ints k n f)) ∧ (∀ j, j < n → (Lit.int k (f j)).wf = true) ∧ ps = [] := by
  obtain ⟨y, hy, hrow⟩ := hr.row
  unfold Value.okWide at hval
  rw [hy] at hval
  have hagg : ∃ cs : Array Value, v = .agg cs := by
    cases y <;> first | (obtain ⟨cs, h, _⟩ := hval; exact ⟨cs, h⟩) | cases hrow
  obtain ⟨cs, rfl⟩ := hagg
  obtain ⟨fuel, hf⟩ := ht
  obtain ⟨h1, h2, h3⟩ := open_row hr fuel _ _ hsz hf
  obtain ⟨g1, g2⟩ := row_cells (μ := fun _ => 0) h1 h2
  refine ⟨numAt (Value.agg cs).cells.toList, fun μ => ?_, g2, h3⟩
  have e : toVal μ (.ints k n (numAt (Value.agg cs).cells.toList)) = toVal (fun _ => 0) (.ints k n (numAt (Value.agg cs).cells.toList)) := rfl
  rw [e]
  show Value.agg cs = Value.agg (flat (fun _ => 0) (.ints k n (numAt (Value.agg cs).cells.toList))).toArray
  rw [← g1]
  rfl

theorem u8_bounds {q : Int} (h : (Lit.int .u8 q).wf = true) : 0 ≤ q ∧ q < 256 := by
  have := bounds_u8 h
  omega

/-- a contract over no blocks, as the rows ask it of a law -/
theorem law_of {P : Program} {f : Nat} {args : List SV} (h : Spec P f args [] (Ret (.bool true))) (μ : Nat → Nat) (w : World) :
    Calls P f (args.map (toVal μ)).toArray w fun e w' => e = .returned (.bool true) ∧ Go.RowKit.Grown w w' := by
  refine (h.run μ w ⟨fun id v c hb => (by cases hb), fun i j hi => (by cases hi), fun id v c hb => (by cases hb)⟩).mono ?_
  rintro e w' ⟨μ', r, m', rfl, ⟨rfl, rfl⟩, _, _, _, _, _, hk⟩
  have hold : ∀ i, i < w.heap.size → w'.heap[i]? = w.heap[i]? := fun i hi => hk.old i hi fun id hs => by cases hs
  refine ⟨rfl, ⟨hk.rest.1, hk.rest.2.1, fun i hi => ?_⟩, fun a => ?_, hk.size⟩
  · rw [hold i hi]
    cases w.heap[i]? with
    | none => rfl
    | some o => cases o <;> first | rfl | exact ⟨rfl, rfl, rfl, fun _ _ => rfl⟩ | exact .inr ⟨rfl, rfl⟩
  · exact hk.fro a
end Go.Proofs.Ytcocapkdpbdmdaa
