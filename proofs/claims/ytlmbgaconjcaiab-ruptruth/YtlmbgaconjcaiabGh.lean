/- Contracts: the library's Delete, of a row's end. -/
import Derived.Test.YtlmbgaconjcaiabGf
import Derived.Lib.SliceRun
set_option linter.unusedVariables false
set_option linter.unusedSimpArgs false
namespace Go.Proofs.Ytlmbgaconjcaiab
open Go.RowKit

theorem grownBy_set (w : World) (g i : Nat) (u : Value) : w.grownBy (w.setCell ⟨g, i, none⟩ u) (some g) :=
  ⟨rfl, rfl, rfl, by simp [World.setCell], fun k _ hne => Below.heap_setCell _ _ _ _ (fun e => hne (by rw [e]))⟩
theorem grownBy_trans {a b c : World} {r : Option Nat} (h : a.grownBy b r) (k : b.grownBy c r) : a.grownBy c r :=
  ⟨k.os.trans h.os, k.tape.trans h.tape, k.output.trans h.output, Nat.le_trans h.size k.size, fun i hi hne => (k.block i (Nat.lt_of_lt_of_le hi h.size) hne).trans (h.block i hi hne)⟩
theorem grownBy_sets (g : Nat) : ∀ (ys : List Value) (i : Nat) (w : World), w.grownBy (w.setCells g i ys) (some g)
  | [], _, w => World.grownBy.refl _ _
  | y :: ys, i, w => grownBy_trans (grownBy_set w g i y) (grownBy_sets g ys (i + 1) _)
theorem own_sets_beyond {base e sz n g : Nat} {v : Value} {xs : List Value} (hg : v.ownBlock = some g) : ∀ (ys : List Value) (i : Nat) (w : World), w.ownsRow base e sz v n xs → xs.length ≤ i → (w.setCells g i ys).ownsRow base e sz v n xs
  | [], _, w, h, _ => h
  | y :: ys, i, w, h, hi => by
    have h1 := own_set (i := i) h hg y
    rw [List.set_eq_of_length_le hi] at h1
    exact own_sets_beyond hg ys (i + 1) _ h1 (by omega)

theorem zeroCells_one {z : Array Value} {n : Nat} (h : ∀ v ∈ z.toList, v.oneCell' = true) (hz : 0 < z.size) : ∀ v ∈ (Builtin.zeroCells z n).toList, v.oneCell' = true := by
  intro v hv
  simp only [Builtin.zeroCells, Array.toList_map, List.mem_map] at hv
  obtain ⟨i, _, rfl⟩ := hv
  have hlt : i % z.size < z.size := Nat.mod_lt _ hz
  apply h
  rw [getElem!_pos z _ hlt]
  simp

/-- clear of what is behind a slice that is not empty. -/
theorem run_clear_any {P : Program} (w : World) (t e ty : TypeId) (z : Value) (sz : Nat) (ht : P.underlying t = some (.slice e)) (hv : ∀ w, (zeroValue e).run P w = .ok z w) (hz : z.cells.size = sz) (h0 : 0 < sz) (h1 : ∀ v ∈ z.cells.toList, v.oneCell' = true) (b o n c : Nat) (hn : 0 < n)
    (hc : ∀ j, j < n * sz → (w.cell? ⟨b, o + j, none⟩).isSome = true) (hf : ∀ j, j < n * sz → w.frozen? ⟨b, o + j, none⟩ = false) :
    (Builtin.clear_ #[t] ty #[.slice (some ⟨b, o, none⟩) n c]).run P w = .ok (.tuple #[]) (w.setCells b o (Builtin.zeroCells z.cells n).toList) := by
  have hsz : (Builtin.zeroCells z.cells n).toList.length = n * sz := by rw [Array.length_toList, size_zeroCells, hz]
  have hst := run_storeCells_cells (P := P) b o (Builtin.zeroCells z.cells n).toList 0 w (by rw [hsz]; simpa using hc) (by rw [hsz]; simpa using hf) (zeroCells_one h1 (by omega))
  simp only [Nat.add_zero] at hst
  obtain ⟨m, rfl⟩ : ∃ m, n = m + 1 := ⟨n - 1, by omega⟩
  simp [Builtin.clear_, run_underlying ht, hv, hst]

def DelP (w : World) (base e sz g m cap : Nat) (xs : List Value) (w' : World) : Prop := w.grownBy w' (some g) ∧ w'.ownsRow base e sz (.slice (some ⟨g, 0, none⟩) m cap) m (xs.take (m * sz))

theorem own_isSome {w : World} {base e sz n g cap : Nat} {xs : List Value} (h : w.ownsRow base e sz (.slice (some ⟨g, 0, none⟩) n cap) n xs) {j : Nat} (hj : j < n * sz) : (w.cell? ⟨g, j, none⟩).isSome = true := by
  have hlen := h.1
  rw [own_cell h rfl (List.getElem?_eq_getElem (by rw [hlen]; exact hj))]; rfl

theorem zero82 (w : World) : (zeroValue 80).run Try.prog w = .ok (.pointer none) w := by kernel_rfl
theorem zero76 (w : World) : (zeroValue 95).run Try.prog w = .ok (.agg #[.int .i64 0, .int .i64 0, .slice none 0 0]) w := by kernel_rfl
theorem zero97 (w : World) : (zeroValue 100).run Try.prog w = .ok (.agg #[.pointer none, .int .i64 0]) w := by kernel_rfl
theorem Try.info95 : (Try.prog.info? 95).map (fun i => (i.zero, i.size, i.bytes)) = some (some (.agg #[.int .i64 0, .int .i64 0, .slice none 0 0]), 3, 40) := by kernel_rfl

set_option maxHeartbeats 2000000 in
set_option maxRecDepth 100000 in
theorem delete61 (w : World) (g n m cap : Nat) (xs : List Value) (hown : w.ownsRow 0 80 1 (.slice (some ⟨g, 0, none⟩) n cap) n xs) (hm : m < n) (hn : n ≤ cap) (hc : cap ≤ maxLen) :
    Calls Try.prog 81 #[.slice (some ⟨g, 0, none⟩) n cap, .int .i64 m, .int .i64 n] w fun e w' => e = .returned (.slice (some ⟨g, 0, none⟩) m cap) ∧ DelP w 0 80 1 g m cap xs w' := by
  obtain ⟨i0, hi0, hz0, hz1, hz2⟩ := info_parts Try.info80
  have hcl : ∀ ty (W : World), Hid (W.ownsRow 0 80 1 (.slice (some ⟨g, 0, none⟩) n cap) n xs) → (Builtin.clear_ #[64] ty #[.slice (some ⟨g, m, none⟩) (n - m) (cap - m)]).run Try.prog W = .ok (.tuple #[]) (W.setCells g (m) (Builtin.zeroCells (Value.pointer none).cells (n - m)).toList) :=
    fun ty W hW => run_clear_any W 64 80 ty _ 1 Try.underlying64 zero82 rfl (by decide) (by simp [Value.cells, Value.oneCell']) g (m) (n - m) (cap - m) (by omega) (fun j hj => own_isSome hW.out (by omega)) (fun j _ => own_fz hW.out rfl _)
  have HO : Hid (w.ownsRow 0 80 1 (.slice (some ⟨g, 0, none⟩) n cap) n xs) := hown
  have HO1 : Hid (w.drew.ownsRow 0 80 1 (.slice (some ⟨g, 0, none⟩) n cap) n xs) := hown
  have hclw := fun ty => hcl ty w.drew HO1
  have HF : Hid (DelP w 0 80 1 g m cap xs (w.drew.setCells g (m) (Builtin.zeroCells (Value.pointer none).cells (n - m)).toList)) := by
    have h1 : w.drew.grownBy (w.drew.setCells g (m) (Builtin.zeroCells (Value.pointer none).cells (n - m)).toList) (some g) := grownBy_sets g _ _ _
    refine ⟨⟨h1.os, h1.tape, h1.output, h1.size, h1.block⟩, ?_⟩
    have h2 := own_cut HO1.out (Nat.le_of_lt hm)
    refine own_sets_beyond rfl _ _ _ h2 ?_
    rw [List.length_take]; omega
  clear hown hcl
  unfold maxLen at hc
  have hne : ¬ m = n := by omega
  have hmn : ((m : Int) == (n : Int)) = false := by simp; omega
  have hic : (m : Int) ≤ cap := by omega
  have hjc : (n : Int) ≤ cap := by omega
  have hmi : (m : Int) ≤ n := by omega
  have hcm : ¬ cap = m := by omega
  by_cases hcn : cap = n
  · subst hcn
    go_enter Try.func81, Try.ntmps81
    go_wp2_with fail
    go_region_law (refine step_append_room rfl (.tmp 22) (.tmp 25) 64 rfl 80 i0 1 Try.underlying64 hi0 hz1 g 0 m cap (by simp [Act.eval, Act.put]) ⟨g, 0, none⟩ 0 0 [] (by simp [Act.eval, Act.put]) (by simp) (by simp) (by simp) (by omega) (by simp) ?_)
    refine forget (P := fun W => Exit.then _ _ Exit.normal _ W) (fun W => W = w.drew) rfl ?_
    rintro W rfl
    go_wp2
    go_ret
    exact ⟨rfl, HF.out⟩
  · go_enter Try.func81, Try.ntmps81
    go_wp2_with fail
    go_region_law (refine step_append_room rfl (.tmp 22) (.tmp 25) 64 rfl 80 i0 1 Try.underlying64 hi0 hz1 g 0 m cap (by simp [Act.eval, Act.put]) ⟨g, n, none⟩ 0 (cap - n) [] (by simp [Act.eval, Act.put, hcn]) (by simp) (by simp) (by simp) (by omega) (by simp) ?_)
    refine forget (P := fun W => Exit.then _ _ Exit.normal _ W) (fun W => W = w.drew) rfl ?_
    rintro W rfl
    go_wp2
    go_ret
    exact ⟨rfl, HF.out⟩

set_option maxHeartbeats 2000000 in
set_option maxRecDepth 100000 in
theorem delete48 (w : World) (g n m cap : Nat) (xs : List Value) (hown : w.ownsRow 0 95 3 (.slice (some ⟨g, 0, none⟩) n cap) n xs) (hm : m < n) (hn : n ≤ cap) (hc : cap ≤ maxLen) :
    Calls Try.prog 56 #[.slice (some ⟨g, 0, none⟩) n cap, .int .i64 m, .int .i64 n] w fun e w' => e = .returned (.slice (some ⟨g, 0, none⟩) m cap) ∧ DelP w 0 95 3 g m cap xs w' := by
  obtain ⟨i0, hi0, hz0, hz1, hz2⟩ := info_parts Try.info95
  have hcl : ∀ ty (W : World), Hid (W.ownsRow 0 95 3 (.slice (some ⟨g, 0, none⟩) n cap) n xs) → (Builtin.clear_ #[65] ty #[.slice (some ⟨g, m * 3, none⟩) (n - m) (cap - m)]).run Try.prog W = .ok (.tuple #[]) (W.setCells g (m * 3) (Builtin.zeroCells (Value.agg #[.int .i64 0, .int .i64 0, .slice none 0 0]).cells (n - m)).toList) :=
    fun ty W hW => run_clear_any W 65 95 ty _ 3 Try.underlying65 zero76 rfl (by decide) (by simp [Value.cells, Value.oneCell']) g (m * 3) (n - m) (cap - m) (by omega) (fun j hj => own_isSome hW.out (by omega)) (fun j _ => own_fz hW.out rfl _)
  have HO : Hid (w.ownsRow 0 95 3 (.slice (some ⟨g, 0, none⟩) n cap) n xs) := hown
  have HO1 : Hid (w.drew.ownsRow 0 95 3 (.slice (some ⟨g, 0, none⟩) n cap) n xs) := hown
  have hclw := fun ty => hcl ty w.drew HO1
  have HF : Hid (DelP w 0 95 3 g m cap xs (w.drew.setCells g (m * 3) (Builtin.zeroCells (Value.agg #[.int .i64 0, .int .i64 0, .slice none 0 0]).cells (n - m)).toList)) := by
    have h1 : w.drew.grownBy (w.drew.setCells g (m * 3) (Builtin.zeroCells (Value.agg #[.int .i64 0, .int .i64 0, .slice none 0 0]).cells (n - m)).toList) (some g) := grownBy_sets g _ _ _
    refine ⟨⟨h1.os, h1.tape, h1.output, h1.size, h1.block⟩, ?_⟩
    have h2 := own_cut HO1.out (Nat.le_of_lt hm)
    refine own_sets_beyond rfl _ _ _ h2 ?_
    rw [List.length_take]; omega
  clear hown hcl
  unfold maxLen at hc
  have hne : ¬ m = n := by omega
  have hmn : ((m : Int) == (n : Int)) = false := by simp; omega
  have hic : (m : Int) ≤ cap := by omega
  have hjc : (n : Int) ≤ cap := by omega
  have hmi : (m : Int) ≤ n := by omega
  have hcm : ¬ cap = m := by omega
  by_cases hcn : cap = n
  · subst hcn
    go_enter Try.func56, Try.ntmps56
    go_wp2_with fail
    go_region_law (refine step_append_room rfl (.tmp 22) (.tmp 25) 65 rfl 95 i0 3 Try.underlying65 hi0 hz1 g 0 m cap (by simp [Act.eval, Act.put]) ⟨g, 0, none⟩ 0 0 [] (by simp [Act.eval, Act.put]) (by simp) (by simp) (by simp) (by omega) (by simp) ?_)
    refine forget (P := fun W => Exit.then _ _ Exit.normal _ W) (fun W => W = w.drew) rfl ?_
    rintro W rfl
    go_wp2
    go_ret
    exact ⟨rfl, HF.out⟩
  · go_enter Try.func56, Try.ntmps56
    go_wp2_with fail
    go_region_law (refine step_append_room rfl (.tmp 22) (.tmp 25) 65 rfl 95 i0 3 Try.underlying65 hi0 hz1 g 0 m cap (by simp [Act.eval, Act.put]) ⟨g, n * 3, none⟩ 0 (cap - n) [] (by simp [Act.eval, Act.put, hcn]) (by simp) (by simp) (by simp) (by omega) (by simp) ?_)
    refine forget (P := fun W => Exit.then _ _ Exit.normal _ W) (fun W => W = w.drew) rfl ?_
    rintro W rfl
    go_wp2
    go_ret
    exact ⟨rfl, HF.out⟩

end Go.Proofs.Ytlmbgaconjcaiab
