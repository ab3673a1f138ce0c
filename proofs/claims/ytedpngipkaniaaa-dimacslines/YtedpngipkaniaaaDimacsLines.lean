/- For every formula and every list of bytes: however the formula's text is parted into lines by them, with what says nothing between, the program reads the formula out of it; the statement returns true and leaves its arguments as they were. No condition. -/
import Derived.Test.YtedpngipkaniaaaLawLines2
import Derived.Test.YtedpngipkaniaaaOpen
import Derived.Test.YtedpngipkaniaaaRows
import Derived.WalkKit
import Derived.ProofKit
import Derived.OpenShut
import Derived.ShutString
import Derived.ChangeOld
import Derived.Below
set_option linter.unusedVariables false
namespace Go.Proofs.Ytedpngipkaniaaa.dimacsLines
open Go.ChangeShapes Go.WideShapes Go.ChangeAt Go.RowKit
open Go.Joins

theorem own : ownKnob Try.prog.godebug = none := by kernel_rfl
theorem laidOut : laidOutB Try.prog = true := by kernel_rfl

theorem walk (a : Option Addr) (cap : Nat) (n : Int) (css : List (List Int)) (ax : Option Addr) (cx : Nat) (xs : List UInt8) (w : World) (hg : Grid w a css) (hl : css.length ≤ maxLen) (hx : Txt w.heap.size w ax xs) (hm : xs.length ≤ maxLen) :
    Calls Try.prog 5 #[.agg #[.int .i64 n, .slice a css.length cap], .slice ax xs.length cx] w fun e w' => e = .returned (.bool true) ∧ Below w.heap.size w w' := by
  cases h1 : lightB css with
  | false => exact lines_dark a cap n css ax cx xs w hg hl hm (.inl h1)
  | true =>
    cases h2 : cnfB n css with
    | false => exact lines_dark a cap n css ax cx xs w hg hl hm (.inr (.inl h2))
    | true =>
      by_cases h3 : xs.length ≤ 400
      · exact lines_light a cap n css ax cx xs w hg hl hx h3 h1 h2
      · exact lines_dark a cap n css ax cx xs w hg hl hm (.inr (.inr (by omega)))

set_option maxRecDepth 100000 in
theorem lifted (os : Os) (started : os.Started) (H : Type) (enc : TypeId × Value → H) :
    ReturnsInHanded {} Try.checked os 5 .any (Rows.dimacsLinesSpec.pre6 enc Try.prog Try.f5 Rows.dimacsLinesRow.domain false) (Rows.dimacsLinesSpec.post enc Try.prog Try.f5 false true false false) := by
  refine returnsInHanded_of_change (C := Try.checked) own started (by kernel_rfl) Try.func5
    (ChangeSpec.witness6 (enc := enc) (C := Try.checked) false ⟨#[], #[.agg #[.int .i64 0, .slice none 0 0], .slice none 0 0], []⟩ 8 (by kernel_rfl) (by kernel_rfl) (by kernel_rfl) (by kernel_rfl)) ?_
  intro W base args ds gs before hval0 hW hcnd _
  have hval : ∀ (j : Nat) t v, Try.f5.params[j]? = some t → args[j]? = some v → Value.okWide Try.prog W .any base t v := hval0
  have hW' := hW
  obtain ⟨p, q, hA0, hV, rfl, hfz, hnd⟩ := hW
  have hA : DataW.TrodAll enc Try.prog W 0 (fun _ => true) true Try.f5.params.toList args.toList ds p := hA0
  rw [Try.params5] at hA hval
  obtain ⟨v0, vs0, d0, ds0, p0, q0, hargs, rfl, rfl, h0, r0⟩ := trodAll_cons hA
  obtain ⟨v1, vs1, d1, ds1, p1, q1, rfl, rfl, rfl, h1, r1⟩ := trodAll_cons r0
  obtain ⟨rfl, rfl, rfl⟩ := trodAll_nil r1
  obtain rfl : args = #[v0, v1] := by cases args; simp_all
  obtain ⟨rfl, rfl⟩ := trodVars_none hV
  have k0 := h0
  have lt0 : ∀ x ∈ p0, x.block < W.heap.size := by obtain ⟨m, hm⟩ := k0; exact DataW.trod_lt m _ _ _ hm
  have k1 := h1
  have lt1 : ∀ x ∈ p1, x.block < W.heap.size := by obtain ⟨m, hm⟩ := k1; exact DataW.trod_lt m _ _ _ hm
  obtain ⟨n, a, css, cap, rfl, hg, hl⟩ := cnf_open (hval 0 30 v0 rfl rfl) h0
  obtain ⟨ax, xs, cx, rfl, hx, hm⟩ := bytes_open (hval 1 27 v1 rfl rfl) h1
  clear hA0 hval0
  refine (walk a cap n css ax cx xs W hg hl hx hm).mono fun e W' ⟨he, bel⟩ => ?_
  subst he
  exact ⟨_, rfl, _, _, _, [], _, [], hW', trodAll_mk1 (shut_bool Try.underlying4 _), (trodAll_cons_mk (Below.trod laidOut (by kernel_rfl) (of_decide_eq_true (by kernel_rfl)) k0 bel lt0) (trodAll_cons_mk (Below.trod laidOut (by kernel_rfl) (of_decide_eq_true (by kernel_rfl)) k1 bel lt1) trodAll_mk0)), rfl, bel.frame _, fun h => by cases h⟩

theorem over : Rows.dimacsLinesRow.holds Try.pinned (OpenSpec.ofChange Rows.dimacsLinesSpec) :=
  OpenClaim.holds_of_wide 5 Try.f5 rfl rfl rfl rfl rfl rfl rfl ⟨rfl, rfl, rfl, rfl, rfl⟩ rfl rfl rfl rfl rfl (by kernel_rfl) Try.func5 (by kernel_rfl)
    (of_decide_eq_true (by kernel_rfl)) (by unfold Func.isWrapper; first | (rw [if_pos (by decide +kernel)]; kernel_rfl) | (rw [if_neg (by decide +kernel)]; exact ⟨rfl, rfl⟩))
    (fun os started H enc _ => lifted os started H enc)

/-- The statement. -/
theorem proved : Rows.DimacsLinesSaid := over
end Go.Proofs.Ytedpngipkaniaaa.dimacsLines

namespace Go.Proofs.Ytedpngipkaniaaa
theorem dimacsLines_holds : Rows.DimacsLinesSaid := dimacsLines.proved
#print axioms dimacsLines_holds
end Go.Proofs.Ytedpngipkaniaaa
