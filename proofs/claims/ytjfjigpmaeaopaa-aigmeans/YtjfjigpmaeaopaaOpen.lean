/- From acts, bools and numbers that came in to what they hold. -/
import Derived.Test.YtjfjigpmaeaopaaWalkY
import Derived.OpenShut
import Derived.ProofKit
import Derived.Deep.Slices
import Derived.Deep.Fields
set_option linter.unusedVariables false
set_option linter.unusedSimpArgs false
namespace Go.Proofs.Ytjfjigpmaeaopaa
open Go.ChangeShapes Go.WideShapes Go.ChangeAt Go.RowKit Go.Deep

theorem Try.cells3 : Try.prog.cellsOf 3 = 1 := by kernel_rfl
theorem Try.cells4 : Try.prog.cellsOf 4 = 1 := by kernel_rfl
theorem Try.cells35 : Try.prog.cellsOf 35 = 4 := by kernel_rfl
theorem i64_of_wf {x : Int} (h : (Lit.int .i64 x).wf = true) : inI64 x := by
  have h1 : IntKind.i64.min = -9223372036854775808 := by decide
  have h2 : IntKind.i64.max = 9223372036854775807 := by decide
  simp [Lit.wf, h1, h2] at h
  exact h

theorem act_row {H : Type} {enc : TypeId × Value → H} {W : World} {n : Nat} {cs : List Value} {x : DataW H × List MemPlace} (h : DataW.trod enc Try.prog W 0 (fun _ => true) true n 35 cs = some x) (hlen : cs.length = 4) :
    ∃ t : ActD, cs = [.int .i64 t.d, .int .i64 t.a, .int .i64 t.b, .int .i64 t.c] ∧ t.ok := by
  obtain ⟨xs, k, hk, hxy, _, hxl, hf⟩ := DataW.trod_struct Try.underlying35 h
  match xs, hxl, cs, hlen with
  | [y0, y1, y2, y3], _, [v0, v1, v2, v3], _ =>
    have g0 := hf 0 _ rfl
    have g1 := hf 1 _ rfl
    have g2 := hf 2 _ rfl
    have g3 := hf 3 _ rfl
    simp [Try.cells3] at g0 g1 g2 g3
    obtain ⟨d, e0, -, _⟩ := DataW.trod_int Try.underlying3 g0
    obtain ⟨a, e1, -, w1⟩ := DataW.trod_int Try.underlying3 g1
    obtain ⟨b, e2, -, w2⟩ := DataW.trod_int Try.underlying3 g2
    obtain ⟨c, e3, -, w3⟩ := DataW.trod_int Try.underlying3 g3
    simp at e0 e1 e2 e3
    subst e0 e1 e2 e3
    exact ⟨⟨d, a, b, c⟩, rfl, i64_of_wf w1, i64_of_wf w2, i64_of_wf w3⟩

structure ActAt (w : World) (a : Addr) (k : Nat) (x : ActD) : Prop where
  c0 : w.cell? (a.add (k * 4)) = some (.int .i64 x.d)
  c1 : w.cell? (a.add (k * 4 + 1)) = some (.int .i64 x.a)
  c2 : w.cell? (a.add (k * 4 + 2)) = some (.int .i64 x.b)
  c3 : w.cell? (a.add (k * 4 + 3)) = some (.int .i64 x.c)
  ok : x.ok

theorem acts_open {H : Type} {enc : TypeId × Value → H} {W : World} {base : Nat} {v : Value} {d : DataW H} {p : List MemPlace} (hv : Value.okWide Try.prog W .any base 22 v) (h : DataW.Trod enc Try.prog W 0 (fun _ => true) true 22 v d p) :
    ∃ a l cap, v = .slice a l.length cap ∧ Acts W a l ∧ l.length ≤ maxLen := by
  obtain ⟨a0, len0, cap0, rfl⟩ := okWide_slice Try.underlying22 hv
  obtain ⟨fuel, hf⟩ := h
  rcases open_slice Try.underlying22 hf with ⟨hcs, _⟩ | ⟨a, len, cap, m, n, D, Pl, hcs, _, hl, hm, hmm, _, hx⟩
  · simp [Value.cells] at hcs
    obtain ⟨rfl, rfl, rfl⟩ := hcs
    exact ⟨none, [], 0, rfl, fun k hk => by simp at hk, by simp⟩
  · simp [Value.cells] at hcs
    obtain ⟨rfl, rfl, rfl⟩ := hcs
    have each : ∀ i, i < len0 → ∃ q : ActD, ActAt W a i q := by
      intro i hi
      obtain ⟨cs', h1, h2⟩ := hx i (by rw [hmm]; simp; omega)
      rw [Try.cells35] at h1
      obtain ⟨_, hlen, hcell⟩ := World.cells?_some h1
      obtain ⟨t, rfl, hok⟩ := act_row h2 hlen
      refine ⟨t, ?_, ?_, ?_, ?_, hok⟩
      · have := hcell 0 (by omega); rw [add_add] at this; simpa using this
      · have := hcell 1 (by omega); rw [add_add] at this; simpa using this
      · have := hcell 2 (by omega); rw [add_add] at this; simpa using this
      · have := hcell 3 (by omega); rw [add_add] at this; simpa using this
    have inh : Inhabited ActD := ⟨⟨0, 0, 0, 0⟩⟩
    obtain ⟨q, hq⟩ := choose_lt each
    have hlen : ((List.range len0).map fun i => q i).length = len0 := by simp
    refine ⟨some a, (List.range len0).map fun i => q i, cap0, by rw [hlen], fun k hk => ?_, by omega⟩
    have hk' : k < len0 := by omega
    obtain ⟨b, off, spot⟩ := a
    have hspot : spot = none := by simpa [Addr.add] using World.cell?_spot (hq 0 (by omega)).c0
    subst hspot
    have H := hq k hk'
    have ek : ((List.range len0).map fun i => q i)[k] = q k := by simp
    refine ⟨b, off, rfl, ?_, ?_⟩
    · have := H.c0; rw [Addr.add_lit] at this; exact World.block_lt_of_cell? W _ this
    · rw [ek]
      have h0 := H.c0
      have h1 := H.c1
      have h2 := H.c2
      have h3 := H.c3
      rw [Addr.add_lit] at h0 h1 h2 h3
      simp only [← Nat.add_assoc] at h1 h2 h3
      exact ⟨⟨h0, h1, h2, h3⟩, H.ok⟩
end Go.Proofs.Ytjfjigpmaeaopaa
