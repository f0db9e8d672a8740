/- An argument that is a Hopf table: its numbers. -/
import Derived.Test.YtegcfjfhpodlmaaOpenAlg
import Derived.Test.YtegcfjfhpodlmaaHop1
set_option linter.unusedVariables false
set_option linter.unusedSimpArgs false
namespace Go.Proofs.Ytegcfjfhpodlmaa
variable {P : Program} {H : Type} {enc : TypeId × Value → H}

theorem open_hopG {w : World} {r : Reach} {b0 b : Nat} {sp : Nat → Bool} {hd : Bool} {t : TypeId} {f0 f1 f2 f3 f4 f5 f6 : Field} {d2 d3 d4 d5 d6 : Nat} (hs : P.underlying t = some (.struct #[f0, f1, f2, f3, f4, f5, f6])) (hsz : (P.info? t).map (·.size) = some 1106)
    (h0 : P.underlying f0.type = some (.int .i64)) (z0 : (P.info? f0.type).map (·.size) = some 1) (o0 : f0.offset = 0) (h1 : P.underlying f1.type = some (.int .i64)) (z1 : (P.info? f1.type).map (·.size) = some 1) (o1 : f1.offset = 1)
    (h2 : RowT P f2.type .u8 8 d2) (z2 : (P.info? f2.type).map (·.size) = some 8) (o2 : f2.offset = 2) (h3 : RowT P f3.type .u8 512 d3) (z3 : (P.info? f3.type).map (·.size) = some 512) (o3 : f3.offset = 10)
    (h4 : RowT P f4.type .u8 8 d4) (z4 : (P.info? f4.type).map (·.size) = some 8) (o4 : f4.offset = 522) (h5 : RowT P f5.type .u8 512 d5) (z5 : (P.info? f5.type).map (·.size) = some 512) (o5 : f5.offset = 530)
    (h6 : RowT P f6.type .u8 64 d6) (z6 : (P.info? f6.type).map (·.size) = some 64) (o6 : f6.offset = 1042)
    {v : Value} {x : DataW H} {ps : List MemPlace} (hval : Value.okWide P w r b0 t v) (ht : DataW.Trod enc P w b sp hd t v x ps) :
    ∃ (p n : Int) (U T Z C S : Nat → Int), (∀ μ, v = toVal μ (hopV p n U T Z C S)) ∧ isU8 8 U ∧ isU8 512 T ∧ isU8 8 Z ∧ isU8 512 C ∧ isU8 64 S ∧ ps = [] := by
  unfold Value.okWide at hval
  rw [hs] at hval
  obtain ⟨cs, rfl, _⟩ := hval
  obtain ⟨fuel, hf⟩ := ht
  obtain ⟨xs, n, _, hx, hl, hlen, hfs⟩ := DataW.trod_struct hs hf
  have hl' : cs.toList.length = 1106 := by rw [cellsOf_of hsz] at hl; exact hl
  match xs, hlen with
  | [y0, y1, y2, y3, y4, y5, y6], _ =>
    have g0 := hfs 0 f0 rfl
    have g1 := hfs 1 f1 rfl
    have g2 := hfs 2 f2 rfl
    have g3 := hfs 3 f3 rfl
    have g4 := hfs 4 f4 rfl
    have g5 := hfs 5 f5 rfl
    have g6 := hfs 6 f6 rfl
    rw [cellsOf_of z0, o0] at g0
    rw [cellsOf_of z1, o1] at g1
    rw [cellsOf_of z2, o2] at g2
    rw [cellsOf_of z3, o3] at g3
    rw [cellsOf_of z4, o4] at g4
    rw [cellsOf_of z5, o5] at g5
    rw [cellsOf_of z6, o6] at g6
    obtain ⟨p, e0, w0, q0⟩ := trod_int_cell h0 g0
    obtain ⟨m, e1, w1, q1⟩ := trod_int_cell h1 g1
    obtain ⟨l2, c2, q2⟩ := open_row h2 _ _ _ z2 g2
    obtain ⟨l3, c3, q3⟩ := open_row h3 _ _ _ z3 g3
    obtain ⟨l4, c4, q4⟩ := open_row h4 _ _ _ z4 g4
    obtain ⟨l5, c5, q5⟩ := open_row h5 _ _ _ z5 g5
    obtain ⟨l6, c6, q6⟩ := open_row h6 _ _ _ z6 g6
    obtain ⟨e2, w2⟩ := row_cells (μ := fun _ => 0) l2 c2
    obtain ⟨e3, w3⟩ := row_cells (μ := fun _ => 0) l3 c3
    obtain ⟨e4, w4⟩ := row_cells (μ := fun _ => 0) l4 c4
    obtain ⟨e5, w5⟩ := row_cells (μ := fun _ => 0) l5 c5
    obtain ⟨e6, w6⟩ := row_cells (μ := fun _ => 0) l6 c6
    refine ⟨p, m, _, _, _, _, _, fun μ => ?_, fun j hj => u8_bounds (w2 j hj), fun j hj => u8_bounds (w3 j hj), fun j hj => u8_bounds (w4 j hj), fun j hj => u8_bounds (w5 j hj), fun j hj => u8_bounds (w6 j hj), ?_⟩
    · have hcs : cs.toList = (cs.toList.drop 0).take 1 ++ ((cs.toList.drop 1).take 1 ++ ((cs.toList.drop 2).take 8 ++ ((cs.toList.drop 10).take 512 ++ ((cs.toList.drop 522).take 8 ++ ((cs.toList.drop 530).take 512 ++ (cs.toList.drop 1042).take 64))))) := by
        have a6 : (cs.toList.drop 1042).take 64 = cs.toList.drop 1042 := List.take_of_length_le (by simp [hl'])
        rw [a6]
        have s1 := List.take_append_drop 1 cs.toList
        have s2 := List.take_append_drop 1 (cs.toList.drop 1)
        have s3 := List.take_append_drop 8 (cs.toList.drop 2)
        have s4 := List.take_append_drop 512 (cs.toList.drop 10)
        have s5 := List.take_append_drop 8 (cs.toList.drop 522)
        have s6 := List.take_append_drop 512 (cs.toList.drop 530)
        rw [List.drop_drop] at s2 s3 s4 s5 s6
        conv => lhs; rw [← s1, ← s2, ← s3, ← s4, ← s5, ← s6]
        rfl
      show Value.agg cs = Value.agg _
      congr 1
      apply Array.ext'
      have e0' : (cs.toList.drop 0).take 1 = [.int .i64 p] := e0
      have e1' : (cs.toList.drop 1).take 1 = [.int .i64 m] := e1
      have e2' : (cs.toList.drop 2).take 8 = _ := e2
      have e3' : (cs.toList.drop 10).take 512 = _ := e3
      have e4' : (cs.toList.drop 522).take 8 = _ := e4
      have e5' : (cs.toList.drop 530).take 512 = _ := e5
      have e6' : (cs.toList.drop 1042).take 64 = _ := e6
      rw [hcs, e0', e1', e2', e3', e4', e5', e6']
      simp [hopV, flat, scal]
    · have : ps = [y0, y1, y2, y3, y4, y5, y6].flatMap (·.2) := congrArg Prod.snd hx
      rw [this]
      simp [q0, q1, q2, q3, q4, q5, q6]
end Go.Proofs.Ytegcfjfhpodlmaa
