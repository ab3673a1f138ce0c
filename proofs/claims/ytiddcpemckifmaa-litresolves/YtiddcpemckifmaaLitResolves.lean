/- For every two lists, every model and every number: what the program resolves of the lists is what the document says (or its error is), and where both lists are clauses that the model makes true, and the variable is not open, what is resolved is true; the statement returns true and leaves its arguments as they were. No condition. -/
import Derived.Test.YtiddcpemckifmaaLawResolves2
import Derived.Test.YtiddcpemckifmaaOpenB
import Derived.Test.YtiddcpemckifmaaRows
import Derived.WalkKit
import Derived.ProofKit
import Derived.OpenShut
import Derived.ShutString
import Derived.ChangeOld
import Derived.Below
set_option linter.unusedVariables false
namespace Go.Proofs.Ytiddcpemckifmaa.litResolves
open Go.ChangeShapes Go.WideShapes Go.ChangeAt Go.RowKit Go.Joins

theorem own : ownKnob Try.prog.godebug = none := by kernel_rfl
theorem laidOut : laidOutB Try.prog = true := by kernel_rfl
theorem cells43 : Try.prog.cellsOf 43 = 2 := by kernel_rfl

theorem walk (a b am : Option Addr) (ca cb cm : Nat) (xs ys m : List Int) (n : Int) (w : World) (hr : Row w a xs) (hs : Row w b ys) (hq : Row w am m) (hl : xs.length ≤ maxLen) (hm : ys.length ≤ maxLen) (hml : m.length ≤ maxLen) :
    Calls Try.prog 6 #[.slice a xs.length ca, .slice b ys.length cb, .agg #[.slice am m.length cm, .int .i64 n]] w fun e w' => e = .returned (.bool true) ∧ Below w.heap.size w w' := by
  by_cases h1 : 600 < (xs.length : Int) ∨ 600 < (ys.length : Int)
  · exact resolves_long a b am ca cb cm xs ys m n w hl hm h1
  have h2 : (xs.length : Int) ≤ 600 := by omega
  have h3 : (ys.length : Int) ≤ 600 := by omega
  cases h4 : resArg xs ys n with
  | false => exact resolves_arg a b am ca cb cm xs ys m n w hr hs h2 h3 h4
  | true =>
    cases h5 : (hasB xs n && hasB ys (-n)) with
    | false => exact resolves_none a b am ca cb cm xs ys m n w hr hs h2 h3 h4 h5
    | true => exact resolves_yes a b am ca cb cm xs ys m n w hr hs hq hml h2 h3 h4 h5

set_option maxRecDepth 100000 in
theorem lifted (os : Os) (started : os.Started) (H : Type) (enc : TypeId × Value → H) :
    ReturnsInHanded {} Try.checked os 6 .any (Rows.litResolvesSpec.pre6 enc Try.prog Try.f6 Rows.litResolvesRow.domain false) (Rows.litResolvesSpec.post enc Try.prog Try.f6 false true false false) := by
  refine returnsInHanded_of_change (C := Try.checked) own started (by kernel_rfl) Try.func6
    (ChangeSpec.witness6 (enc := enc) (C := Try.checked) false ⟨#[], #[.slice none 0 0, .slice none 0 0, .agg #[.slice none 0 0, .int .i64 0]], []⟩ 8 (by kernel_rfl) (by kernel_rfl) (by kernel_rfl) (by kernel_rfl)) ?_
  intro W base args ds gs before hval0 hW hcnd _
  have hval : ∀ (j : Nat) t v, Try.f6.params[j]? = some t → args[j]? = some v → Value.okWide Try.prog W .any base t v := hval0
  have hW' := hW
  obtain ⟨p, q, hA0, hV, rfl, hfz, hnd⟩ := hW
  have hA : DataW.TrodAll enc Try.prog W 0 (fun _ => true) true Try.f6.params.toList args.toList ds p := hA0
  rw [Try.params6] at hA hval
  obtain ⟨v0, vs0, d0, ds0, p0, q0, hargs, rfl, rfl, h0, r0⟩ := trodAll_cons hA
  obtain ⟨v1, vs1, d1, ds1, p1, q1, rfl, rfl, rfl, h1, r1⟩ := trodAll_cons r0
  obtain ⟨v2, vs2, d2, ds2, p2, q2, rfl, rfl, rfl, h2, r2⟩ := trodAll_cons r1
  obtain ⟨rfl, rfl, rfl⟩ := trodAll_nil r2
  obtain rfl : args = #[v0, v1, v2] := by cases args; simp_all
  obtain ⟨rfl, rfl⟩ := trodVars_none hV
  have k0 := h0
  have lt0 : ∀ x ∈ p0, x.block < W.heap.size := by obtain ⟨m, hm⟩ := k0; exact DataW.trod_lt m _ _ _ hm
  have k1 := h1
  have lt1 : ∀ x ∈ p1, x.block < W.heap.size := by obtain ⟨m, hm⟩ := k1; exact DataW.trod_lt m _ _ _ hm
  have k2 := h2
  have lt2 : ∀ x ∈ p2, x.block < W.heap.size := by obtain ⟨m, hm⟩ := k2; exact DataW.trod_lt m _ _ _ hm
  obtain ⟨a0, xs, cap0, rfl, hr, hl⟩ := slice_open (hval 0 22 v0 rfl rfl) h0
  obtain ⟨a1, ys, cap1, rfl, hs, hm⟩ := slice_open (hval 1 22 v1 rfl rfl) h1
  obtain ⟨am, m, cm, n, rfl, hq, hml⟩ : ∃ (am : Option Addr) (m : List Int) (cm : Nat) (n : Int), v2 = .agg #[.slice am m.length cm, .int .i64 n] ∧ Row W am m ∧ m.length ≤ maxLen := by
    obtain ⟨c0, c1, y0, y1, f, rfl, -, -, hy0, hy1⟩ := open_agg2 Try.underlying43 (by kernel_rfl) cells43 (hval 2 43 v2 rfl rfl) h2
    obtain ⟨am, m, cm, e0, hq, hml⟩ := slice_row hy0
    obtain ⟨n, e1, -, wn⟩ := DataW.trod_int Try.underlying3 hy1
    simp at e0 e1
    subst e0 e1
    exact ⟨am, m, cm, n, rfl, hq, hml⟩
  clear hA0 hval0
  refine (walk a0 a1 am cap0 cap1 cm xs ys m n W hr hs hq hl hm hml).mono fun e W' ⟨he, bel⟩ => ?_
  subst he
  exact ⟨_, rfl, _, _, _, [], _, [], hW', trodAll_mk1 (shut_bool Try.underlying4 _), (trodAll_cons_mk (Below.trod laidOut (by kernel_rfl) (of_decide_eq_true (by kernel_rfl)) k0 bel lt0) (trodAll_cons_mk (Below.trod laidOut (by kernel_rfl) (of_decide_eq_true (by kernel_rfl)) k1 bel lt1) (trodAll_cons_mk (Below.trod laidOut (by kernel_rfl) (of_decide_eq_true (by kernel_rfl)) k2 bel lt2) trodAll_mk0))), rfl, bel.frame _, fun h => by cases h⟩

theorem over : Rows.litResolvesRow.holds Try.pinned (OpenSpec.ofChange Rows.litResolvesSpec) :=
  OpenClaim.holds_of_wide 6 Try.f6 rfl rfl rfl rfl rfl rfl rfl ⟨rfl, rfl, rfl, rfl, rfl⟩ rfl rfl rfl rfl rfl (by kernel_rfl) Try.func6 (by kernel_rfl)
    (of_decide_eq_true (by kernel_rfl)) (by unfold Func.isWrapper; first | (rw [if_pos (by decide +kernel)]; kernel_rfl) | (rw [if_neg (by decide +kernel)]; exact ⟨rfl, rfl⟩))
    (fun os started H enc _ => lifted os started H enc)

/-- The statement. -/
theorem proved : Rows.LitResolvesSaid := over
end Go.Proofs.Ytiddcpemckifmaa.litResolves

namespace Go.Proofs.Ytiddcpemckifmaa
theorem litResolves_holds : Rows.LitResolvesSaid := litResolves.proved
#print axioms litResolves_holds
end Go.Proofs.Ytiddcpemckifmaa
