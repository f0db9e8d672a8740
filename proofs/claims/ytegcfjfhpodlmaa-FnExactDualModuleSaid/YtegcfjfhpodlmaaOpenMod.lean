/- An argument that is a module: its numbers. -/
import Derived.Test.YtegcfjfhpodlmaaOpenAlg
import Derived.Test.YtegcfjfhpodlmaaMod1
set_option linter.unusedVariables false
set_option linter.unusedSimpArgs false
namespace Go.Proofs.Ytegcfjfhpodlmaa
variable {P : Program} {H : Type} {enc : TypeId × Value → H}

theorem open_modG {w : World} {r : Reach} {b0 b : Nat} {sp : Nat → Bool} {hd : Bool} {t : TypeId} {f0 f1 : Field} {d1 : Nat} (hs : P.underlying t = some (.struct #[f0, f1])) (hsz : (P.info? t).map (·.size) = some 513)
    (h0 : P.underlying f0.type = some (.int .i64)) (z0 : (P.info? f0.type).map (·.size) = some 1) (o0 : f0.offset = 0)
    (h1 : RowT P f1.type .u8 512 d1) (z1 : (P.info? f1.type).map (·.size) = some 512) (o1 : f1.offset = 1)
    {v : Value} {x : DataW H} {ps : List MemPlace} (hval : Value.okWide P w r b0 t v) (ht : DataW.Trod enc P w b sp hd t v x ps) :
    ∃ (d : Int) (A : Nat → Int), (∀ μ, v = toVal μ (modV d A)) ∧ isU8 512 A ∧ ps = [] := by
  unfold Value.okWide at hval
  rw [hs] at hval
  obtain ⟨cs, rfl, _⟩ := hval
  obtain ⟨fuel, hf⟩ := ht
  obtain ⟨xs, n, _, hx, hl, hlen, hfs⟩ := DataW.trod_struct hs hf
  have hl' : cs.toList.length = 513 := by rw [cellsOf_of hsz] at hl; exact hl
  match xs, hlen with
  | [y0, y1], _ =>
    have g0 := hfs 0 f0 rfl
    have g1 := hfs 1 f1 rfl
    rw [cellsOf_of z0, o0] at g0
    rw [cellsOf_of z1, o1] at g1
    obtain ⟨p, e0, w0, q0⟩ := trod_int_cell h0 g0
    obtain ⟨l1, c1, q1⟩ := open_row h1 _ _ _ z1 g1
    obtain ⟨e1, w1⟩ := row_cells (μ := fun _ => 0) l1 c1
    refine ⟨p, _, fun μ => ?_, fun j hj => u8_bounds (w1 j hj), ?_⟩
    · have hcs : cs.toList = (cs.toList.drop 0).take 1 ++ (cs.toList.drop 1).take 512 := by
        have a1 : (cs.toList.drop 1).take 512 = cs.toList.drop 1 := List.take_of_length_le (by simp [hl'])
        rw [a1]
        exact (List.take_append_drop 1 cs.toList).symm
      show Value.agg cs = Value.agg _
      congr 1
      apply Array.ext'
      have e0' : (cs.toList.drop 0).take 1 = [.int .i64 p] := e0
      have e1' : (cs.toList.drop 1).take 512 = _ := e1
      rw [hcs, e0', e1']
      simp [modV, flat, scal]
    · have : ps = [y0, y1].flatMap (·.2) := congrArg Prod.snd hx
      rw [this]
      simp [q0, q1]
end Go.Proofs.Ytegcfjfhpodlmaa
