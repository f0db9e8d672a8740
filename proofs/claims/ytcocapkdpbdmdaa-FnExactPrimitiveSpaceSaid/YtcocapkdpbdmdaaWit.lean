/- A witness's arguments are in form: checked cell by cell in one pass. -/
import Derived.Test.YtcocapkdpbdmdaaOpen
import Derived.Handed
set_option linter.unusedVariables false
set_option linter.unusedSimpArgs false
namespace Go.Proofs.Ytcocapkdpbdmdaa
variable {P : Program}

/-- the cells of a row against their types, side by side -/
def rowZB (P : Program) (w : World) (t : TypeId) (cs : Array Value) : Bool :=
  match P.cellTypes P.depth t with
  | some ts => Nat.beq cs.toList.length ts.length && Nat.blt 0 ts.length && (cs.toList.zip ts).all fun p => Cell.okWideB P w p.2 p.1
  | none => false

theorem rowZ {w : World} {t : TypeId} {cs : Array Value} (h : rowZB P w t cs = true) : Cell.okWideRowB P w t cs = true := by
  unfold rowZB at h
  unfold Cell.okWideRowB
  split at h
  · rename_i ts hts
    simp only [hts]
    simp only [Bool.and_eq_true] at h
    obtain ⟨⟨h1, h2⟩, h3⟩ := h
    have hl : cs.toList.length = ts.length := Nat.eq_of_beq_eq_true h1
    have hs : cs.size = ts.length := by rw [← hl]; simp
    simp only [Bool.and_eq_true, beq_iff_eq, List.all_eq_true, List.mem_range]
    refine ⟨by rw [hs]; exact Nat.mod_self _, fun i hi => ?_⟩
    have hit : i < ts.length := by omega
    rw [Nat.mod_eq_of_lt hit, Array.getElem?_eq_getElem hi, List.getElem?_eq_getElem hit]
    have hz : (cs.toList.zip ts)[i]? = some (cs[i], ts[i]) := by
      rw [List.getElem?_zip_eq_some]
      exact ⟨by rw [Array.getElem?_toList, Array.getElem?_eq_getElem hi], List.getElem?_eq_getElem hit⟩
    exact List.all_eq_true.1 h3 _ (List.mem_of_getElem? hz)
  · cases h

def valZB (P : Program) (w : World) (t : TypeId) (v : Value) : Bool :=
  match P.underlying t with
  | some (.struct _) | some (.array _ _) =>
    match v with
    | .agg cs => cs.size == P.cellsOf t && rowZB P w t cs
    | _ => false
  | _ => Cell.okWideB P w t v
theorem valZ {w : World} {t : TypeId} {v : Value} (h : valZB P w t v = true) : Value.okWideB P w t v = true := by
  unfold valZB at h
  unfold Value.okWideB
  split at h
  · rename_i fs hu
    simp only [hu]
    cases v <;> simp only [Bool.false_eq_true, Bool.and_eq_true] at h ⊢
    exact ⟨h.1, rowZ h.2⟩
  · rename_i n e hu
    simp only [hu]
    cases v <;> simp only [Bool.false_eq_true, Bool.and_eq_true] at h ⊢
    exact ⟨h.1, rowZ h.2⟩
  · rename_i h1 h2
    split
    · rename_i fs hu; exact absurd hu (h1 fs)
    · rename_i n e hu; exact absurd hu (h2 n e)
    · exact h

def inputZB (P : Program) (w : World) (f : FuncId) (i : Input) : Bool :=
  (i.blocks.toList.all fun
    | .cells cs t (0, 0) => P.buildable t && Row.okRefB P w t cs
    | _ => false) &&
  i.vars.isEmpty && (P.inits.idxOf? f).isNone &&
  match P.funcs[f]? with
  | some fn => fn.body.isSome && !fn.ours && fn.nfree == 0 && i.args.size == fn.params.size &&
      (List.range fn.params.size).all fun j =>
        match fn.params[j]?, i.args[j]? with
        | some t, some v => valZB P w t v
        | _, _ => false
  | none => false
theorem inputZ {w : World} {f : FuncId} {i : Input} (h : inputZB P w f i = true) : Input.okWideB P w f i = true := by
  unfold inputZB at h
  unfold Input.okWideB
  simp only [Bool.and_eq_true] at h ⊢
  refine ⟨h.1, ?_⟩
  have h2 := h.2
  split at h2
  · rename_i fn hf
    simp only [hf]
    simp only [Bool.and_eq_true, List.all_eq_true, List.mem_range] at h2 ⊢
    refine ⟨h2.1, fun j hj => ?_⟩
    have := h2.2 j hj
    split at this
    · rename_i t v ht hv
      simp only [ht, hv]
      exact valZ this
    · cases this
  · cases h2
end Go.Proofs.Ytcocapkdpbdmdaa
