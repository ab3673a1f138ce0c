/- From nodes and numbers that came in to what they hold. -/
import Derived.Test.YtbilhiklfficoaaVq
import Derived.Test.YtbilhiklfficoaaWalkM
import Derived.Test.YtbilhiklfficoaaEvA
import Derived.Test.YtbilhiklfficoaaWalkN
import Derived.OpenShut
import Derived.ProofKit
import Derived.Deep.Slices
import Derived.Deep.Fields
set_option linter.unusedVariables false
set_option linter.unusedSimpArgs false
namespace Go.Proofs.Ytbilhiklfficoaa
open Go.ChangeShapes Go.WideShapes Go.ChangeAt Go.RowKit Go.Deep

theorem Try.cells3 : Try.prog.cellsOf 3 = 1 := by kernel_rfl
theorem Try.cells4 : Try.prog.cellsOf 4 = 1 := by kernel_rfl
theorem Try.cells60 : Try.prog.cellsOf 60 = 2 := by kernel_rfl
theorem i64_of_wf {x : Int} (h : (Lit.int .i64 x).wf = true) : inI64 x := by
  have h1 : IntKind.i64.min = -9223372036854775808 := by decide
  have h2 : IntKind.i64.max = 9223372036854775807 := by decide
  simp [Lit.wf, h1, h2] at h
  exact h

theorem gate_row {H : Type} {enc : TypeId × Value → H} {W : World} {n : Nat} {cs : List Value} {x : DataW H × List MemPlace} (h : DataW.trod enc Try.prog W 0 (fun _ => true) true n 60 cs = some x) (hlen : cs.length = 2) :
    ∃ t : Gt, cs = [.int .i64 t.1, .int .i64 t.2] := by
  obtain ⟨xs, k, hk, hxy, _, hxl, hf⟩ := DataW.trod_struct Try.underlying60 h
  match xs, hxl, cs, hlen with
  | [y0, y1], _, [v0, v1], _ =>
    have g0 := hf 0 _ rfl
    have g1 := hf 1 _ rfl
    simp [Try.cells3] at g0 g1
    obtain ⟨d, e0, -, _⟩ := DataW.trod_int Try.underlying3 g0
    obtain ⟨a, e1, -, w1⟩ := DataW.trod_int Try.underlying3 g1
    simp at e0 e1
    subst e0 e1
    exact ⟨(d, a), rfl⟩

structure GateAt (w : World) (a : Addr) (k : Nat) (x : Gt) : Prop where
  c0 : w.cell? (a.add (k * 2)) = some (.int .i64 x.1)
  c1 : w.cell? (a.add (k * 2 + 1)) = some (.int .i64 x.2)

theorem gates_open {H : Type} {enc : TypeId × Value → H} {W : World} {base : Nat} {v : Value} {d : DataW H} {p : List MemPlace} (hv : Value.okWide Try.prog W .any base 22 v) (h : DataW.Trod enc Try.prog W 0 (fun _ => true) true 22 v d p) :
    ∃ (a : Option Addr) (l : List Gt) (cap : Nat), v = .slice a l.length cap ∧ GS W a l ∧ l.length ≤ maxLen ∧ (a = none → l = [] ∧ cap = 0) := by
  obtain ⟨a0, len0, cap0, rfl⟩ := okWide_slice Try.underlying22 hv
  obtain ⟨fuel, hf⟩ := h
  rcases open_slice Try.underlying22 hf with ⟨hcs, _⟩ | ⟨a, len, cap, m, n, D, Pl, hcs, _, hl, hm, hmm, _, hx⟩
  · simp [Value.cells] at hcs
    obtain ⟨rfl, rfl, rfl⟩ := hcs
    exact ⟨none, [], 0, rfl, fun k hk => by simp at hk, by simp, fun _ => ⟨rfl, rfl⟩⟩
  · simp [Value.cells] at hcs
    obtain ⟨rfl, rfl, rfl⟩ := hcs
    have each : ∀ i, i < len0 → ∃ q : Gt, GateAt W a i q := by
      intro i hi
      obtain ⟨cs', h1, h2⟩ := hx i (by rw [hmm]; simp; omega)
      rw [Try.cells60] at h1
      obtain ⟨_, hlen, hcell⟩ := World.cells?_some h1
      obtain ⟨t, rfl⟩ := gate_row h2 hlen
      refine ⟨t, ?_, ?_⟩
      · have := hcell 0 (by omega); rw [add_add] at this; simpa using this
      · have := hcell 1 (by omega); rw [add_add] at this; simpa using this
    have inh : Inhabited Gt := ⟨(0, 0)⟩
    obtain ⟨q, hq⟩ := choose_lt each
    have hlen : ((List.range len0).map fun i => q i).length = len0 := by simp
    refine ⟨some a, (List.range len0).map fun i => q i, cap0, by rw [hlen], fun k hk => ?_, by omega, fun h => by cases h⟩
    have hk' : k < len0 := by omega
    obtain ⟨b, off, spot⟩ := a
    have hspot : spot = none := by simpa [Addr.add] using World.cell?_spot (hq 0 (by omega)).c0
    subst hspot
    have H := hq k hk'
    have ek : ((List.range len0).map fun i => q i)[k] = q k := by simp
    have h0 := H.c0
    have h1 := H.c1
    rw [Addr.add_lit] at h0 h1
    rw [← Nat.add_assoc] at h1
    exact ⟨b, off, rfl, World.block_lt_of_cell? W _ h0, by rw [ek]; exact h0, by rw [ek]; exact h1⟩

theorem ints_open {H : Type} {enc : TypeId × Value → H} {W : World} {base : Nat} {v : Value} {d : DataW H} {p : List MemPlace} (hv : Value.okWide Try.prog W .any base 24 v) (h : DataW.Trod enc Try.prog W 0 (fun _ => true) true 24 v d p) :
    ∃ (a : Option Addr) (l : List Int) (cap : Nat), v = .slice a l.length cap ∧ Row W a l ∧ l.length ≤ maxLen ∧ (∀ x ∈ l, inI64 x) ∧ l.length ≤ cap ∧ (a = none → l = [] ∧ cap = 0) := by
  obtain ⟨a0, len0, cap0, rfl⟩ := okWide_slice Try.underlying24 hv
  obtain ⟨fuel, hf⟩ := h
  rcases open_slice Try.underlying24 hf with ⟨hcs, _⟩ | ⟨a, len, cap, m, n, D, Pl, hcs, _, hl, hm, hmm, _, hx⟩
  · simp [Value.cells] at hcs
    obtain ⟨rfl, rfl, rfl⟩ := hcs
    exact ⟨none, [], 0, rfl, fun k hk => by simp at hk, by simp, by simp, by simp, fun _ => ⟨rfl, rfl⟩⟩
  · simp [Value.cells] at hcs
    obtain ⟨rfl, rfl, rfl⟩ := hcs
    have each : ∀ i, i < len0 → ∃ q : Int, W.cell? (a.add i) = some (.int .i64 q) ∧ inI64 q := by
      intro i hi
      obtain ⟨cs', h1, h2⟩ := hx i (by rw [hmm]; simp; omega)
      rw [Try.cells3] at h1
      obtain ⟨_, hlen, hcell⟩ := World.cells?_some h1
      match cs', hlen with
      | [y], _ =>
        obtain ⟨x, e0, -, wx⟩ := DataW.trod_int Try.underlying3 h2
        simp at e0
        subst e0
        refine ⟨x, ?_, i64_of_wf wx⟩
        have := hcell 0 (by omega); rw [add_add] at this; simpa using this
    obtain ⟨q, hq⟩ := choose_lt each
    have hlen : ((List.range len0).map fun i => q i).length = len0 := by simp
    refine ⟨some a, (List.range len0).map fun i => q i, cap0, by rw [hlen], fun k hk => ?_, by omega, fun x hx => ?_, by omega, fun h => by cases h⟩
    · have hk' : k < len0 := by omega
      obtain ⟨b, off, spot⟩ := a
      have hspot : spot = none := by simpa [Addr.add] using World.cell?_spot (hq 0 (by omega)).1
      subst hspot
      have H := (hq k hk').1
      have ek : ((List.range len0).map fun i => q i)[k] = q k := by simp
      rw [Addr.add_lit] at H
      exact ⟨b, off, rfl, World.block_lt_of_cell? W _ H, by rw [ek]; exact H⟩
    · obtain ⟨k, hk, rfl⟩ := List.mem_map.1 hx
      exact (hq k (by simpa using hk)).2

theorem bools_open {H : Type} {enc : TypeId × Value → H} {W : World} {base : Nat} {v : Value} {d : DataW H} {p : List MemPlace} (hv : Value.okWide Try.prog W .any base 23 v) (h : DataW.Trod enc Try.prog W 0 (fun _ => true) true 23 v d p) :
    ∃ (a : Option Addr) (l : List Bool) (cap : Nat), v = .slice a l.length cap ∧ Vs W a l ∧ l.length ≤ maxLen := by
  obtain ⟨a0, len0, cap0, rfl⟩ := okWide_slice Try.underlying23 hv
  obtain ⟨fuel, hf⟩ := h
  rcases open_slice Try.underlying23 hf with ⟨hcs, _⟩ | ⟨a, len, cap, m, n, D, Pl, hcs, _, hl, hm, hmm, _, hx⟩
  · simp [Value.cells] at hcs
    obtain ⟨rfl, rfl, rfl⟩ := hcs
    exact ⟨none, [], 0, rfl, fun k hk => by simp at hk, by simp⟩
  · simp [Value.cells] at hcs
    obtain ⟨rfl, rfl, rfl⟩ := hcs
    have each : ∀ i, i < len0 → ∃ q : Bool, W.cell? (a.add i) = some (.bool q) := by
      intro i hi
      obtain ⟨cs', h1, h2⟩ := hx i (by rw [hmm]; simp; omega)
      rw [Try.cells4] at h1
      obtain ⟨_, hlen, hcell⟩ := World.cells?_some h1
      match cs', hlen with
      | [y], _ =>
        obtain ⟨x, e0, -⟩ := DataW.trod_bool Try.underlying4 h2
        simp at e0
        subst e0
        refine ⟨x, ?_⟩
        have := hcell 0 (by omega); rw [add_add] at this; simpa using this
    obtain ⟨q, hq⟩ := choose_lt each
    have hlen : ((List.range len0).map fun i => q i).length = len0 := by simp
    refine ⟨some a, (List.range len0).map fun i => q i, cap0, by rw [hlen], fun k hk => ?_, by omega⟩
    have hk' : k < len0 := by omega
    obtain ⟨b, off, spot⟩ := a
    have hspot : spot = none := by simpa [Addr.add] using World.cell?_spot (hq 0 (by omega))
    subst hspot
    have H := hq k hk'
    have ek : ((List.range len0).map fun i => q i)[k] = q k := by simp
    rw [Addr.add_lit] at H
    exact ⟨b, off, rfl, World.block_lt_of_cell? W _ H, by rw [ek]; exact H⟩
end Go.Proofs.Ytbilhiklfficoaa
