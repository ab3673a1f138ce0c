/- For every formula, every list of decisions and every model: what the program's propagator lets follow from decisions is true by each model that makes the clauses and the decisions true, and it tells a broken clause only if there is none; the statement returns true and leaves its arguments as they were. No condition. -/
import Derived.Test.YtdekcppgfkfiaaaKe
import Derived.Test.YtdekcppgfkfiaaaOpen
import Derived.Test.YtdekcppgfkfiaaaRows
import Derived.WalkKit
import Derived.ProofKit
import Derived.OpenShut
import Derived.ShutString
import Derived.ChangeOld
import Derived.Below
import Derived.Lib.SmallJoins
import Derived.Deep.Matrix
set_option linter.unusedVariables false
set_option linter.unusedSimpArgs false
namespace Go.Proofs.Ytdekcppgfkfiaaa
open Go.ChangeShapes Go.WideShapes Go.ChangeAt Go.RowKit Go.Joins Go.Deep

theorem grid_rowC {H : Type} {enc : TypeId × Value → H} {W : World} {fuel : Nat} {cs : List Value} {y : DataW H × List MemPlace} (hf : DataW.trod enc Try.prog W 0 (fun _ => true) true fuel 22 cs = some y) :
    ∃ a css cap, cs = [.slice a css.length cap] ∧ GridC W a css ∧ css.length ≤ maxLen := by
  rcases open_int_rows Try.underlying22 Try.underlying34 Try.underlying3 Try.cells34 Try.cells3 hf with ⟨hcs, _⟩ | ⟨a, len, cap, A, L, C, Z, hcs, _, hl, hm, _, hall⟩
  · exact ⟨none, [], 0, hcs, fun i hi => by simp at hi, by simp⟩
  · have hlen : ((List.range len).map fun r => (Z r).take (L r)).length = len := by simp
    refine ⟨some a, (List.range len).map fun r => (Z r).take (L r), cap, by rw [hlen]; exact hcs, ?_, by omega⟩
    intro i hi
    have hi' : i < len := by omega
    have hic : i < cap := by omega
    obtain ⟨hc0, -⟩ := hall 0 (by omega)
    obtain ⟨b, off, spot⟩ := a
    have hspot : spot = none := by simpa [Addr.add] using World.cell?_spot hc0
    subst hspot
    obtain ⟨hc, h1, h2, h3, h4, h5, h6⟩ := hall i hic
    rw [add_plain] at hc
    have ei : ((List.range len).map fun r => (Z r).take (L r))[i] = (Z i).take (L i) := by simp
    obtain ⟨xs, e, hr, hx⟩ : ∃ xs, L i = xs.length ∧ Row W (A i) xs ∧ xs = (Z i).take (L i) := by
      have hlt : ((Z i).take (L i)).length = L i := by simp; omega
      refine ⟨_, hlt.symm, ?_, rfl⟩
      intro j hj
      cases hA : A i with
      | none => have := h5 hA; omega
      | some a' =>
        obtain ⟨-, hcell⟩ := h6 a' hA
        have hc' : ∀ c, c < (Z i).length → W.cell? (a'.add c) = some (.int .i64 ((Z i).getD c 0)) := fun c h => hcell c (by omega)
        obtain ⟨b', off', rfl, hc''⟩ := ints_at hc' (by omega)
        have hj' : j < (Z i).length := by omega
        have := hc'' j hj'
        refine ⟨b', off', rfl, World.block_lt_of_cell? W _ this, ?_⟩
        rw [this, List.getElem_take, List.getD_eq_getElem?_getD, List.getElem?_eq_getElem hj']; rfl
    refine ⟨b, off, A i, C i, rfl, World.block_lt_of_cell? W _ hc, ?_, ?_, ?_, h5⟩
    · rw [ei, ← hx, ← e]; exact hc
    · rw [ei, ← hx]; exact hr
    · rw [ei, ← hx, ← e]; omega

theorem cnf_openC {H : Type} {enc : TypeId × Value → H} {W : World} {base : Nat} {v : Value} {d : DataW H} {p : List MemPlace} (hv : Value.okWide Try.prog W .any base 24 v) (h : DataW.Trod enc Try.prog W 0 (fun _ => true) true 24 v d p) :
    ∃ (n : Int) (a : Option Addr) (css : List (List Int)) (cap : Nat), v = .agg #[.int .i64 n, .slice a css.length cap] ∧ GridC W a css ∧ css.length ≤ maxLen := by
  obtain ⟨c0, c1, y0, y1, f, rfl, -, -, hy0, hy1⟩ := open_agg2 Try.underlying24 (by kernel_rfl) Try.cells24 hv h
  obtain ⟨n, e0, -, wn⟩ := DataW.trod_int Try.underlying3 hy0
  obtain ⟨a, css, cap, e1, hg, hl⟩ := grid_rowC hy1
  simp at e0 e1
  subst e0 e1
  exact ⟨n, a, css, cap, rfl, hg, hl⟩
end Go.Proofs.Ytdekcppgfkfiaaa

namespace Go.Proofs.Ytdekcppgfkfiaaa.propSound
open Go.ChangeShapes Go.WideShapes Go.ChangeAt Go.RowKit Go.Joins

theorem own : ownKnob Try.prog.godebug = none := by kernel_rfl
theorem laidOut : laidOutB Try.prog = true := by kernel_rfl

theorem walk (a ad am : Option Addr) (cap cd cm : Nat) (n : Int) (css : List (List Int)) (ds m : List Int) (w : World) (hg : GridC w a css) (hl : css.length ≤ maxLen) (hrd : Row w ad ds) (hrm : Row w am m) (hdl : ds.length ≤ maxLen) (hml : m.length ≤ maxLen) :
    Calls Try.prog 5 #[.agg #[.int .i64 n, .slice a css.length cap], .slice ad ds.length cd, .slice am m.length cm] w fun e w' => e = .returned (.bool true) ∧ Below w.heap.size w w' := by
  cases h : lightB css with
  | false => exact sound_dark a ad am cap cd cm n css ds m w hg.grid hl (.inl h)
  | true =>
    by_cases h1 : 60 < css.length
    · exact sound_dark a ad am cap cd cm n css ds m w hg.grid hl (.inr (.inl ⟨h, h1⟩))
    · by_cases h2 : 60 < n
      · exact sound_dark a ad am cap cd cm n css ds m w hg.grid hl (.inr (.inr (.inl ⟨h, h1, h2⟩)))
      · cases h3 : cnfB n css with
        | false => exact sound_dark a ad am cap cd cm n css ds m w hg.grid hl (.inr (.inr (.inr ⟨h, h1, h2, h3⟩)))
        | true =>
          have hn : 0 ≤ n := by
            unfold cnfB at h3
            simp only [Bool.and_eq_true, decide_eq_true_eq] at h3
            exact h3.1.1
          obtain ⟨V, rfl⟩ : ∃ V : Nat, n = V := ⟨n.toNat, by omega⟩
          exact sound_main a ad am cap cd cm V css ds m w hg h h1 (by omega) h3 hrd hrm hdl hml

set_option maxRecDepth 100000 in
theorem lifted (os : Os) (started : os.Started) (H : Type) (enc : TypeId × Value → H) :
    ReturnsInHanded {} Try.checked os 5 .any (Rows.propSoundSpec.pre6 enc Try.prog Try.f5 Rows.propSoundRow.domain false) (Rows.propSoundSpec.post enc Try.prog Try.f5 false true false false) := by
  refine returnsInHanded_of_change (C := Try.checked) own started (by kernel_rfl) Try.func5
    (ChangeSpec.witness6 (enc := enc) (C := Try.checked) false ⟨#[], #[.agg #[.int .i64 0, .slice none 0 0], .slice none 0 0, .slice none 0 0], []⟩ 8 (by kernel_rfl) (by kernel_rfl) (by kernel_rfl) (by kernel_rfl)) ?_
  intro W base args ds gs before hval0 hW hcnd _
  have hval : ∀ (j : Nat) t v, Try.f5.params[j]? = some t → args[j]? = some v → Value.okWide Try.prog W .any base t v := hval0
  have hW' := hW
  obtain ⟨p, q, hA0, hV, rfl, hfz, hnd⟩ := hW
  have hA : DataW.TrodAll enc Try.prog W 0 (fun _ => true) true Try.f5.params.toList args.toList ds p := hA0
  rw [Try.params5] at hA hval
  obtain ⟨v0, vs0, d0, ds0, p0, q0, hargs, rfl, rfl, h0, r0⟩ := trodAll_cons hA
  obtain ⟨v1, vs1, d1, ds1, p1, q1, rfl, rfl, rfl, h1, r1⟩ := trodAll_cons r0
  obtain ⟨v2, vs2, d2, ds2, p2, q2, rfl, rfl, rfl, h2, r2⟩ := trodAll_cons r1
  obtain ⟨rfl, rfl, rfl⟩ := trodAll_nil r2
  obtain rfl : args = #[v0, v1, v2] := by cases args; simp_all
  obtain ⟨rfl, rfl⟩ := trodVars_none hV
  have k0 := h0
  have lt0 : ∀ x ∈ p0, x.block < W.heap.size := by obtain ⟨m, hm⟩ := k0; exact DataW.trod_lt m _ _ _ hm
  have k1 := h1
  have lt1 : ∀ x ∈ p1, x.block < W.heap.size := by obtain ⟨m, hm⟩ := k1; exact DataW.trod_lt m _ _ _ hm
  have k2 := h2
  have lt2 : ∀ x ∈ p2, x.block < W.heap.size := by obtain ⟨m, hm⟩ := k2; exact DataW.trod_lt m _ _ _ hm
  obtain ⟨n1, a0, xs, cap0, rfl, hr, hl⟩ := cnf_openC (hval 0 24 v0 rfl rfl) h0
  obtain ⟨ad, dd, cd, rfl, hq1, hml1⟩ := slice_open (hval 1 34 v1 rfl rfl) h1
  obtain ⟨am, m, cm, rfl, hq, hml⟩ := slice_open (hval 2 34 v2 rfl rfl) h2
  clear hA0 hval0
  refine (walk a0 ad am cap0 cd cm n1 xs dd m W hr hl hq1 hq hml1 hml).mono fun e W' ⟨he, bel⟩ => ?_
  subst he
  exact ⟨_, rfl, _, _, _, [], _, [], hW', trodAll_mk1 (shut_bool Try.underlying4 _), (trodAll_cons_mk (Below.trod laidOut (by kernel_rfl) (of_decide_eq_true (by kernel_rfl)) k0 bel lt0) (trodAll_cons_mk (Below.trod laidOut (by kernel_rfl) (of_decide_eq_true (by kernel_rfl)) k1 bel lt1) (trodAll_cons_mk (Below.trod laidOut (by kernel_rfl) (of_decide_eq_true (by kernel_rfl)) k2 bel lt2) trodAll_mk0))), rfl, bel.frame _, fun h => by cases h⟩

theorem over : Rows.propSoundRow.holds Try.pinned (OpenSpec.ofChange Rows.propSoundSpec) :=
  OpenClaim.holds_of_wide 5 Try.f5 rfl rfl rfl rfl rfl rfl rfl ⟨rfl, rfl, rfl, rfl, rfl⟩ rfl rfl rfl rfl rfl (by kernel_rfl) Try.func5 (by kernel_rfl)
    (of_decide_eq_true (by kernel_rfl)) (by unfold Func.isWrapper; first | (rw [if_pos (by decide +kernel)]; kernel_rfl) | (rw [if_neg (by decide +kernel)]; exact ⟨rfl, rfl⟩))
    (fun os started H enc _ => lifted os started H enc)

/-- The statement. -/
theorem proved : Rows.PropSoundSaid := over
end Go.Proofs.Ytdekcppgfkfiaaa.propSound

namespace Go.Proofs.Ytdekcppgfkfiaaa
theorem propSound_holds : Rows.PropSoundSaid := propSound.proved
#print axioms propSound_holds
end Go.Proofs.Ytdekcppgfkfiaaa
