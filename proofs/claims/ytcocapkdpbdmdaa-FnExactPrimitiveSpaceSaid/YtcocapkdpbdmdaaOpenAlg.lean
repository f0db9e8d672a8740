/- An argument that is an algebra: its numbers. -/
import Derived.Test.YtcocapkdpbdmdaaOpen
import Derived.Test.YtcocapkdpbdmdaaModel
set_option linter.unusedVariables false
set_option linter.unusedSimpArgs false
namespace Go.Proofs.Ytcocapkdpbdmdaa
variable {P : Program} {H : Type} {enc : TypeId × Value → H}

theorem open_algG {w : World} {r : Reach} {b0 b : Nat} {sp : Nat → Bool} {hd : Bool} {t : TypeId} {f0 f1 f2 f3 : Field} {d2 d3 : Nat} (hs : P.underlying t = some (.struct #[f0, f1, f2, f3])) (hsz : (P.info? t).map (·.size) = some 522)
    (h0 : P.underlying f0.type = some (.int .i64)) (z0 : (P.info? f0.type).map (·.size) = some 1) (o0 : f0.offset = 0) (h1 : P.underlying f1.type = some (.int .i64)) (z1 : (P.info? f1.type).map (·.size) = some 1) (o1 : f1.offset = 1)
    (h2 : RowT P f2.type .u8 8 d2) (z2 : (P.info? f2.type).map (·.size) = some 8) (o2 : f2.offset = 2) (h3 : RowT P f3.type .u8 512 d3) (z3 : (P.info? f3.type).map (·.size) = some 512) (o3 : f3.offset = 10)
    {v : Value} {x : DataW H} {ps : List MemPlace} (hval : Value.okWide P w r b0 t v) (ht : DataW.Trod enc P w b sp hd t v x ps) :
    ∃ (p n : Int) (U T : Nat → Int), (∀ μ, v = toVal μ (algV p n U T)) ∧ isU8 8 U ∧ isU8 512 T ∧ ps = [] := by
  unfold Value.okWide at hval
  rw [hs] at hval
  obtain ⟨cs, rfl, _⟩ := hval
  obtain ⟨fuel, hf⟩ := ht
  obtain ⟨xs, n, _, hx, hl, hlen, hfs⟩ := DataW.trod_struct hs hf
  have hl' : cs.toList.length = 522 := by rw [cellsOf_of hsz] at hl; exact hl
  match xs, hlen with
  | [y0, y1, y2, y3], _ =>
    have g0 := hfs 0 f0 rfl
    have g1 := hfs 1 f1 rfl
    have g2 := hfs 2 f2 rfl
    have g3 := hfs 3 f3 rfl
    rw [cellsOf_of z0, o0] at g0
    rw [cellsOf_of z1, o1] at g1
    rw [cellsOf_of z2, o2] at g2
    rw [cellsOf_of z3, o3] at g3
    obtain ⟨p, e0, w0, q0⟩ := trod_int_cell h0 g0
    obtain ⟨m, e1, w1, q1⟩ := trod_int_cell h1 g1
    obtain ⟨l2, c2, q2⟩ := open_row h2 _ _ _ z2 g2
    obtain ⟨l3, c3, q3⟩ := open_row h3 _ _ _ z3 g3
    obtain ⟨e2, w2⟩ := row_cells (μ := fun _ => 0) l2 c2
    obtain ⟨e3, w3⟩ := row_cells (μ := fun _ => 0) l3 c3
    refine ⟨p, m, _, _, fun μ => ?_, fun j hj => u8_bounds (w2 j hj), fun j hj => u8_bounds (w3 j hj), ?_⟩
    · have hcs : cs.toList = (cs.toList.drop 0).take 1 ++ ((cs.toList.drop 1).take 1 ++ ((cs.toList.drop 2).take 8 ++ (cs.toList.drop 10).take 512)) := by
        have a3 : (cs.toList.drop 10).take 512 = cs.toList.drop 10 := List.take_of_length_le (by simp [hl'])
        rw [a3]
        have s1 := List.take_append_drop 1 cs.toList
        have s2 := List.take_append_drop 1 (cs.toList.drop 1)
        have s3 := List.take_append_drop 8 (cs.toList.drop 2)
        rw [List.drop_drop] at s2 s3
        conv => lhs; rw [← s1, ← s2, ← s3]
        rfl
      show Value.agg cs = Value.agg _
      congr 1
      apply Array.ext'
      have e0' : (cs.toList.drop 0).take 1 = [.int .i64 p] := e0
      have e1' : (cs.toList.drop 1).take 1 = [.int .i64 m] := e1
      have e2' : (cs.toList.drop 2).take 8 = _ := e2
      have e3' : (cs.toList.drop 10).take 512 = _ := e3
      rw [hcs, e0', e1', e2', e3']
      simp [algV, flat, scal]
    · have : ps = [y0, y1, y2, y3].flatMap (·.2) := congrArg Prod.snd hx
      rw [this]
      simp [q0, q1, q2, q3]
end Go.Proofs.Ytcocapkdpbdmdaa
