/- The law on SubmoduleOf returns true for every Hopf table, every module table and every vector. -/
import Derived.Test.YtjanlnngeklhoabGreatRows
import Derived.WalkKit
import Derived.ProofKit
import Derived.OpenShut
import Derived.Test.YtjanlnngeklhoabGreatPd
import Derived.Test.YtjanlnngeklhoabGreatTab
import Derived.Test.YtjanlnngeklhoabGreatPh
import Derived.Test.YtjanlnngeklhoabGreatPg
namespace Go.Proofs.YtjanlnngeklhoabGreat.fnExactSubmoduleOf
open Go.ChangeShapes Go.WideShapes Go.ChangeAt Go.RowKit
set_option linter.unusedVariables false
set_option maxRecDepth 100000
theorem own : ownKnob Tryz.prog.godebug = none := by kernel_rfl

theorem lifted (os : Os) (started : os.Started) (H : Type) (enc : TypeId × Value → H) :
    ReturnsInHanded {} Tryz.checked os 4 .any (Rows.fnExactSubmoduleOfSpec.pre6 enc Tryz.prog Tryz.f4 Rows.fnExactSubmoduleOfRow.domain false) (Rows.fnExactSubmoduleOfSpec.post enc Tryz.prog Tryz.f4 false true false false) := by
  refine returnsInHanded_of_change (C := Tryz.checked) own started (by kernel_rfl) Tryz.func4
    (ChangeSpec.witness6 (enc := enc) (C := Tryz.checked) false ⟨#[], #[(.agg (([Value.int .i64 0] ++ ([Value.int .i64 0] ++ (List.replicate 8 (Value.int .u8 0) ++ (List.replicate 512 (Value.int .u8 0) ++ (List.replicate 8 (Value.int .u8 0) ++ (List.replicate 512 (Value.int .u8 0) ++ (List.replicate 64 (Value.int .u8 0))))))))).toArray), (.agg (([Value.int .i64 0] ++ (List.replicate 512 (Value.int .u8 0)))).toArray), (.agg (List.replicate 8 (Value.int .u8 0)).toArray)], []⟩ 8 (by kernel_rfl) (by kernel_rfl) (inputZ (by kernel_rfl)) (by kernel_rfl)) ?_
  intro W base args ds gs before hval0 hW hcnd _
  have hval : ∀ (j : Nat) t v, Tryz.f4.params[j]? = some t → args[j]? = some v → Value.okWide Tryz.prog W .any base t v := hval0
  have hW' := hW
  obtain ⟨p, q, hA0, hV, rfl, hfz, hnd⟩ := hW
  have hA : DataW.TrodAll enc Tryz.prog W 0 (fun _ => true) true Tryz.f4.params.toList args.toList ds p := hA0
  rw [Tryz.params4] at hA hval
  obtain ⟨v0, vs0, d0, ds0, p0, q0, hargs, rfl, rfl, h0, r0⟩ := trodAll_cons hA
  obtain ⟨v1, vs1, d1, ds1, p1, q1, rfl, rfl, rfl, h1, r1⟩ := trodAll_cons r0
  obtain ⟨v2, vs2, d2, ds2, p2, q2, rfl, rfl, rfl, h2, r2⟩ := trodAll_cons r1
  obtain ⟨rfl, rfl, rfl⟩ := trodAll_nil r2
  obtain rfl : args = #[v0, v1, v2] := by cases args; simp_all
  obtain ⟨rfl, rfl⟩ := trodVars_none hV
  obtain ⟨p0x, n0x, U0x, T0x, Z0x, C0x, S0x, e0, wU0, wT0, wZ0, wC0, wS0, rfl⟩ := open_hopG Tryz.underlying26 (by kernel_rfl) Tryz.underlying2 (by kernel_rfl) rfl Tryz.underlying2 (by kernel_rfl) rfl row_22 (by kernel_rfl) rfl row_24 (by kernel_rfl) rfl row_22 (by kernel_rfl) rfl row_24 (by kernel_rfl) rfl row_23 (by kernel_rfl) rfl (hval 0 26 v0 rfl rfl) h0
  obtain ⟨n1x, T1x, e1, wT1, rfl⟩ := open_modG Tryz.underlying28 (by kernel_rfl) Tryz.underlying2 (by kernel_rfl) rfl row_24 (by kernel_rfl) rfl (hval 1 28 v1 rfl rfl) h1
  obtain ⟨a2, e2, w2, rfl⟩ := open_rowArg row_22 (by kernel_rfl) (hval 2 22 v2 rfl rfl) h2
  clear hA0 hval0
  simp only [List.append_nil] at hW'
  have hlaw := law_of (lawSub_c p0x n0x U0x T0x Z0x C0x S0x wU0 wT0 wZ0 wC0 wS0 n1x T1x wT1 a2 (fun j hj => u8_bounds (w2 j hj))) (fun _ => 0) W
  have hcall : Calls Tryz.prog 4 #[v0, v1, v2] W fun e w' => e = .returned (.bool true) ∧ Grown W w' := by
    rw [e0 (fun _ => 0), e1 (fun _ => 0), e2 (fun _ => 0)]
    exact hlaw
  refine hcall.mono fun e W' ⟨he, hg⟩ => ?_
  subst he
  exact ⟨_, rfl, post_of_same (pa := []) (pv := []) hW' (fun _ _ _ => (trodAll_cons_mk (shut_bool Tryz.underlying4 _) trodAll_mk0)) (fun sp _ => (trodAll_cons_mk (Trod_any (d := 40) (by kernel_rfl) h0) (trodAll_cons_mk (Trod_any (d := 40) (by kernel_rfl) h1) (trodAll_cons_mk (Trod_any (d := 40) (by kernel_rfl) h2) trodAll_mk0)))) (fun _ _ => rfl) rfl
    (hg.frame _) hg.2.1 (ok_one (by kernel_rfl) rfl (okWide_bool_mk Tryz.underlying4 _))⟩

theorem over : Rows.fnExactSubmoduleOfRow.holds Tryz.pinned (OpenSpec.ofChange Rows.fnExactSubmoduleOfSpec) :=
  OpenClaim.holds_of_wide 4 Tryz.f4 rfl rfl rfl rfl rfl rfl rfl ⟨rfl, rfl, rfl, rfl, rfl⟩ rfl rfl rfl rfl rfl (by kernel_rfl) Tryz.func4 (by kernel_rfl)
    (of_decide_eq_true (by kernel_rfl)) (by unfold Func.isWrapper; first | (rw [if_pos (by decide +kernel)]; kernel_rfl) | (rw [if_neg (by decide +kernel)]; exact ⟨rfl, rfl⟩))
    (fun os started H enc _ => lifted os started H enc)

theorem proved : Rows.FnExactSubmoduleOfSaid := over
#print axioms proved
end Go.Proofs.YtjanlnngeklhoabGreat.fnExactSubmoduleOf
