/- The law on LegsOf returns true for every Hopf table and every vector. -/
import Derived.Test.YtjanlnngeklhoaaRows
import Derived.WalkKit
import Derived.ProofKit
import Derived.OpenShut
import Derived.Test.YtjanlnngeklhoaaPd
import Derived.Test.YtjanlnngeklhoaaTab
import Derived.Test.YtjanlnngeklhoaaPg
namespace Go.Proofs.Ytjanlnngeklhoaa.fnExactLegsOf
open Go.ChangeShapes Go.WideShapes Go.ChangeAt Go.RowKit
set_option linter.unusedVariables false
set_option maxRecDepth 100000
theorem own : ownKnob Try.prog.godebug = none := by kernel_rfl

theorem lifted (os : Os) (started : os.Started) (H : Type) (enc : TypeId × Value → H) :
    ReturnsInHanded {} Try.checked os 4 .any (Rows.fnExactLegsOfSpec.pre6 enc Try.prog Try.f4 Rows.fnExactLegsOfRow.domain false) (Rows.fnExactLegsOfSpec.post enc Try.prog Try.f4 false true false false) := by
  refine returnsInHanded_of_change (C := Try.checked) own started (by kernel_rfl) Try.func4
    (ChangeSpec.witness6 (enc := enc) (C := Try.checked) false ⟨#[], #[(.agg (([Value.int .i64 0] ++ ([Value.int .i64 0] ++ (List.replicate 8 (Value.int .u8 0) ++ (List.replicate 512 (Value.int .u8 0) ++ (List.replicate 8 (Value.int .u8 0) ++ (List.replicate 512 (Value.int .u8 0) ++ (List.replicate 64 (Value.int .u8 0))))))))).toArray), (.agg (List.replicate 8 (Value.int .u8 0)).toArray)], []⟩ 8 (by kernel_rfl) (by kernel_rfl) (inputZ (by kernel_rfl)) (by kernel_rfl)) ?_
  intro W base args ds gs before hval0 hW hcnd _
  have hval : ∀ (j : Nat) t v, Try.f4.params[j]? = some t → args[j]? = some v → Value.okWide Try.prog W .any base t v := hval0
  have hW' := hW
  obtain ⟨p, q, hA0, hV, rfl, hfz, hnd⟩ := hW
  have hA : DataW.TrodAll enc Try.prog W 0 (fun _ => true) true Try.f4.params.toList args.toList ds p := hA0
  rw [Try.params4] at hA hval
  obtain ⟨v0, vs0, d0, ds0, p0, q0, hargs, rfl, rfl, h0, r0⟩ := trodAll_cons hA
  obtain ⟨v1, vs1, d1, ds1, p1, q1, rfl, rfl, rfl, h1, r1⟩ := trodAll_cons r0
  obtain ⟨rfl, rfl, rfl⟩ := trodAll_nil r1
  obtain rfl : args = #[v0, v1] := by cases args; simp_all
  obtain ⟨rfl, rfl⟩ := trodVars_none hV
  obtain ⟨p0x, n0x, U0x, T0x, Z0x, C0x, S0x, e0, wU0, wT0, wZ0, wC0, wS0, rfl⟩ := open_hopG Try.underlying26 (by kernel_rfl) Try.underlying2 (by kernel_rfl) rfl Try.underlying2 (by kernel_rfl) rfl row_22 (by kernel_rfl) rfl row_24 (by kernel_rfl) rfl row_22 (by kernel_rfl) rfl row_24 (by kernel_rfl) rfl row_23 (by kernel_rfl) rfl (hval 0 26 v0 rfl rfl) h0
  obtain ⟨a1, e1, w1, rfl⟩ := open_rowArg row_22 (by kernel_rfl) (hval 1 22 v1 rfl rfl) h1
  clear hA0 hval0
  simp only [List.append_nil] at hW'
  have hlaw := law_of (lawLegs_c p0x n0x U0x T0x Z0x C0x S0x wU0 wT0 wZ0 wC0 wS0 a1 (fun j hj => u8_bounds (w1 j hj))) (fun _ => 0) W
  have hcall : Calls Try.prog 4 #[v0, v1] W fun e w' => e = .returned (.bool true) ∧ Grown W w' := by
    rw [e0 (fun _ => 0), e1 (fun _ => 0)]
    exact hlaw
  refine hcall.mono fun e W' ⟨he, hg⟩ => ?_
  subst he
  exact ⟨_, rfl, post_of_same (pa := []) (pv := []) hW' (fun _ _ _ => (trodAll_cons_mk (shut_bool Try.underlying4 _) trodAll_mk0)) (fun sp _ => (trodAll_cons_mk (Trod_any (d := 40) (by kernel_rfl) h0) (trodAll_cons_mk (Trod_any (d := 40) (by kernel_rfl) h1) trodAll_mk0))) (fun _ _ => rfl) rfl
    (hg.frame _) hg.2.1 (ok_one (by kernel_rfl) rfl (okWide_bool_mk Try.underlying4 _))⟩

theorem over : Rows.fnExactLegsOfRow.holds Try.pinned (OpenSpec.ofChange Rows.fnExactLegsOfSpec) :=
  OpenClaim.holds_of_wide 4 Try.f4 rfl rfl rfl rfl rfl rfl rfl ⟨rfl, rfl, rfl, rfl, rfl⟩ rfl rfl rfl rfl rfl (by kernel_rfl) Try.func4 (by kernel_rfl)
    (of_decide_eq_true (by kernel_rfl)) (by unfold Func.isWrapper; first | (rw [if_pos (by decide +kernel)]; kernel_rfl) | (rw [if_neg (by decide +kernel)]; exact ⟨rfl, rfl⟩))
    (fun os started H enc _ => lifted os started H enc)

theorem proved : Rows.FnExactLegsOfSaid := over
#print axioms proved
end Go.Proofs.Ytjanlnngeklhoaa.fnExactLegsOf
