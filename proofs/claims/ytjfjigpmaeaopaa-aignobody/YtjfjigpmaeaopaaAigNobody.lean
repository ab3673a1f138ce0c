/- For every act: of a graph that New or Load did not give nothing is made, nil and the zero value alike; the statement returns true and leaves its argument as it was; no condition. -/
import Derived.Test.YtjfjigpmaeaopaaLawNb
import Derived.Test.YtjfjigpmaeaopaaOpen
import Derived.Test.YtjfjigpmaeaopaaRows
import Derived.WalkKit
import Derived.ProofKit
import Derived.OpenShut
import Derived.ShutString
import Derived.ChangeOld
import Derived.Below
import Derived.Lib.SmallJoins
set_option linter.unusedVariables false
namespace Go.Proofs.Ytjfjigpmaeaopaa.aigNobody
open Go.ChangeShapes Go.WideShapes Go.ChangeAt Go.RowKit Go.Joins

theorem act_open {H : Type} {enc : TypeId × Value → H} {W : World} {base : Nat} {v : Value} {d : DataW H} {p : List MemPlace} (hv : Value.okWide Try.prog W .any base 35 v) (h : DataW.Trod enc Try.prog W 0 (fun _ => true) true 35 v d p) :
    ∃ t : ActD, v = .agg #[.int .i64 t.d, .int .i64 t.a, .int .i64 t.b, .int .i64 t.c] ∧ t.ok := by
  obtain ⟨c0, c1, c2, c3, y0, y1, y2, y3, f, rfl, -, -, hy0, hy1, hy2, hy3⟩ := open_agg4 Try.underlying35 (by kernel_rfl) Try.cells35 hv h
  obtain ⟨t, e0, -, _⟩ := DataW.trod_int Try.underlying3 hy0
  obtain ⟨a, e1, -, wa⟩ := DataW.trod_int Try.underlying3 hy1
  obtain ⟨b, e2, -, wb⟩ := DataW.trod_int Try.underlying3 hy2
  obtain ⟨c, e3, -, wc⟩ := DataW.trod_int Try.underlying3 hy3
  simp at e0 e1 e2 e3
  subst e0 e1 e2 e3
  exact ⟨⟨t, a, b, c⟩, rfl, i64_of_wf wa, i64_of_wf wb, i64_of_wf wc⟩

theorem own : ownKnob Try.prog.godebug = none := by kernel_rfl
theorem laidOut : laidOutB Try.prog = true := by kernel_rfl

set_option maxRecDepth 100000 in
theorem lifted (os : Os) (started : os.Started) (H : Type) (enc : TypeId × Value → H) :
    ReturnsInHanded {} Try.checked os 7 .any (Rows.aigNobodySpec.pre6 enc Try.prog Try.f7 Rows.aigNobodyRow.domain false) (Rows.aigNobodySpec.post enc Try.prog Try.f7 false true false false) := by
  refine returnsInHanded_of_change (C := Try.checked) own started (by kernel_rfl) Try.func7
    (ChangeSpec.witness6 (enc := enc) (C := Try.checked) false ⟨#[], #[.agg #[.int .i64 0, .int .i64 0, .int .i64 0, .int .i64 0]], []⟩ 8 (by kernel_rfl) (by kernel_rfl) (by kernel_rfl) (by kernel_rfl)) ?_
  intro W base args ds gs before hval0 hW hcnd _
  have hval : ∀ (j : Nat) t v, Try.f7.params[j]? = some t → args[j]? = some v → Value.okWide Try.prog W .any base t v := hval0
  have hW' := hW
  obtain ⟨p, q, hA0, hV, rfl, hfz, hnd⟩ := hW
  have hA : DataW.TrodAll enc Try.prog W 0 (fun _ => true) true Try.f7.params.toList args.toList ds p := hA0
  rw [Try.params7] at hA hval
  obtain ⟨v0, vs0, d0, ds0, p0, q0, hargs, rfl, rfl, h0, r0⟩ := trodAll_cons hA
  obtain ⟨rfl, rfl, rfl⟩ := trodAll_nil r0
  obtain rfl : args = #[v0] := by cases args; simp_all
  obtain ⟨rfl, rfl⟩ := trodVars_none hV
  have k0 := h0
  have lt0 : ∀ x ∈ p0, x.block < W.heap.size := by obtain ⟨m, hm⟩ := k0; exact DataW.trod_lt m _ _ _ hm
  obtain ⟨t, rfl, hok⟩ := act_open (hval 0 35 v0 rfl rfl) h0
  clear hA0 hval0
  refine (nobody_any W t.d t.a t.b t.c hok.1 hok.2.1 hok.2.2).mono fun e W' ⟨he, bel⟩ => ?_
  subst he
  exact ⟨_, rfl, _, _, _, [], _, [], hW', trodAll_mk1 (shut_bool Try.underlying4 _), (trodAll_cons_mk (Below.trod laidOut (by kernel_rfl) (of_decide_eq_true (by kernel_rfl)) k0 bel lt0) trodAll_mk0), rfl, bel.frame _, fun h => by cases h⟩

theorem over : Rows.aigNobodyRow.holds Try.pinned (OpenSpec.ofChange Rows.aigNobodySpec) :=
  OpenClaim.holds_of_wide 7 Try.f7 rfl rfl rfl rfl rfl rfl rfl ⟨rfl, rfl, rfl, rfl, rfl⟩ rfl rfl rfl rfl rfl (by kernel_rfl) Try.func7 (by kernel_rfl)
    (of_decide_eq_true (by kernel_rfl)) (by unfold Func.isWrapper; first | (rw [if_pos (by decide +kernel)]; kernel_rfl) | (rw [if_neg (by decide +kernel)]; exact ⟨rfl, rfl⟩))
    (fun os started H enc _ => lifted os started H enc)

/-- The statement. -/
theorem proved : Rows.AigNobodySaid := over
end Go.Proofs.Ytjfjigpmaeaopaa.aigNobody

namespace Go.Proofs.Ytjfjigpmaeaopaa
theorem aigNobody_holds : Rows.AigNobodySaid := aigNobody.proved
#print axioms aigNobody_holds
end Go.Proofs.Ytjfjigpmaeaopaa
