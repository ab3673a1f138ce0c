/- For every formula and every list of acts: run twice nothing more follows, and of a new propagator of the clauses that are there, to which the same is decided, just the same follows; the statement returns true and leaves its arguments as they were. No condition. -/
import Derived.Test.YtlmbgaconjcaiaaNp
import Derived.Test.YtlmbgaconjcaiaaNq
import Derived.Test.YtlmbgaconjcaiaaRows
import Derived.WalkKit
import Derived.ProofKit
import Derived.OpenShut
import Derived.ShutString
import Derived.ChangeOld
import Derived.Below
import Derived.Lib.SmallJoins
set_option linter.unusedVariables false
namespace Go.Proofs.Ytlmbgaconjcaiaa.propOnce
open Go.ChangeShapes Go.WideShapes Go.ChangeAt Go.RowKit Go.Joins

theorem own : ownKnob Try.prog.godebug = none := by kernel_rfl
theorem laidOut : laidOutB Try.prog = true := by kernel_rfl

theorem walk (a al : Option Addr) (cap cal : Nat) (n : Int) (css : List (List Int)) (L : List ActD) (w : World) (hg : GridC w a css) (hl : css.length ≤ maxLen) (hcap : a = none → cap = 0) (hA : Acts w al L) (hll : L.length ≤ maxLen) :
    Calls Try.prog 4 #[.agg #[.int .i64 n, .slice a css.length cap], .slice al L.length cal] w fun e w' => e = .returned (.bool true) ∧ Below w.heap.size w w' := by
  cases h : lightB css with
  | false => exact once_dark a al cap cal n css L w hg.grid hl hA hll (.inl h)
  | true =>
    by_cases h1 : 60 < css.length
    · exact once_dark a al cap cal n css L w hg.grid hl hA hll (.inr (.inl ⟨h, h1⟩))
    · by_cases h2 : 60 < n
      · exact once_dark a al cap cal n css L w hg.grid hl hA hll (.inr (.inr (.inl ⟨h, h1, h2⟩)))
      · cases h3 : lightA L with
        | false => exact once_dark a al cap cal n css L w hg.grid hl hA hll (.inr (.inr (.inr (.inl ⟨h, h1, h2, h3⟩))))
        | true =>
          cases h4 : cnfB n css with
          | false => exact once_dark a al cap cal n css L w hg.grid hl hA hll (.inr (.inr (.inr (.inr ⟨h, h1, h2, h3, h4⟩))))
          | true =>
            have hn : 0 ≤ n := by
              unfold cnfB at h4
              simp only [Bool.and_eq_true, decide_eq_true_eq] at h4
              exact h4.1.1
            obtain ⟨V, rfl⟩ : ∃ V : Nat, n = V := ⟨n.toNat, by omega⟩
            exact once_main a al cap cal V css L w hg hcap h h1 (by omega) h4 hA hll h3

set_option maxRecDepth 100000 in
theorem lifted (os : Os) (started : os.Started) (H : Type) (enc : TypeId × Value → H) :
    ReturnsInHanded {} Try.checked os 4 .any (Rows.propOnceSpec.pre6 enc Try.prog Try.f4 Rows.propOnceRow.domain false) (Rows.propOnceSpec.post enc Try.prog Try.f4 false true false false) := by
  refine returnsInHanded_of_change (C := Try.checked) own started (by kernel_rfl) Try.func4
    (ChangeSpec.witness6 (enc := enc) (C := Try.checked) false ⟨#[], #[.agg #[.int .i64 0, .slice none 0 0], .slice none 0 0], []⟩ 8 (by kernel_rfl) (by kernel_rfl) (by kernel_rfl) (by kernel_rfl)) ?_
  intro W base args ds gs before hval0 hW hcnd _
  have hval : ∀ (j : Nat) t v, Try.f4.params[j]? = some t → args[j]? = some v → Value.okWide Try.prog W .any base t v := hval0
  have hW' := hW
  obtain ⟨p, q, hA0, hV, rfl, hfz, hnd⟩ := hW
  have hA : DataW.TrodAll enc Try.prog W 0 (fun _ => true) true Try.f4.params.toList args.toList ds p := hA0
  rw [Try.params4] at hA hval
  obtain ⟨v0, vs0, d0, ds0, p0, q0, hargs, rfl, rfl, h0, r0⟩ := trodAll_cons hA
  obtain ⟨v1, vs1, d1, ds1, p1, q1, rfl, rfl, rfl, h1, r1⟩ := trodAll_cons r0
  obtain ⟨rfl, rfl, rfl⟩ := trodAll_nil r1
  obtain rfl : args = #[v0, v1] := by cases args; simp_all
  obtain ⟨rfl, rfl⟩ := trodVars_none hV
  have k0 := h0
  have lt0 : ∀ x ∈ p0, x.block < W.heap.size := by obtain ⟨m, hm⟩ := k0; exact DataW.trod_lt m _ _ _ hm
  have k1 := h1
  have lt1 : ∀ x ∈ p1, x.block < W.heap.size := by obtain ⟨m, hm⟩ := k1; exact DataW.trod_lt m _ _ _ hm
  obtain ⟨n1, a0, xs, cap0, rfl, hr, hl, hn⟩ := cnf_openC (hval 0 24 v0 rfl rfl) h0
  obtain ⟨al, L, cal, rfl, hq, hml⟩ := acts_open (hval 1 25 v1 rfl rfl) h1
  clear hA0 hval0
  refine (walk a0 al cap0 cal n1 xs L W hr hl hn hq hml).mono fun e W' ⟨he, bel⟩ => ?_
  subst he
  exact ⟨_, rfl, _, _, _, [], _, [], hW', trodAll_mk1 (shut_bool Try.underlying4 _), (trodAll_cons_mk (Below.trod laidOut (by kernel_rfl) (of_decide_eq_true (by kernel_rfl)) k0 bel lt0) (trodAll_cons_mk (Below.trod laidOut (by kernel_rfl) (of_decide_eq_true (by kernel_rfl)) k1 bel lt1) trodAll_mk0)), rfl, bel.frame _, fun h => by cases h⟩

theorem over : Rows.propOnceRow.holds Try.pinned (OpenSpec.ofChange Rows.propOnceSpec) :=
  OpenClaim.holds_of_wide 4 Try.f4 rfl rfl rfl rfl rfl rfl rfl ⟨rfl, rfl, rfl, rfl, rfl⟩ rfl rfl rfl rfl rfl (by kernel_rfl) Try.func4 (by kernel_rfl)
    (of_decide_eq_true (by kernel_rfl)) (by unfold Func.isWrapper; first | (rw [if_pos (by decide +kernel)]; kernel_rfl) | (rw [if_neg (by decide +kernel)]; exact ⟨rfl, rfl⟩))
    (fun os started H enc _ => lifted os started H enc)

/-- The statement. -/
theorem proved : Rows.PropOnceSaid := over
end Go.Proofs.Ytlmbgaconjcaiaa.propOnce

namespace Go.Proofs.Ytlmbgaconjcaiaa
theorem propOnce_holds : Rows.PropOnceSaid := propOnce.proved
#print axioms propOnce_holds
end Go.Proofs.Ytlmbgaconjcaiaa
