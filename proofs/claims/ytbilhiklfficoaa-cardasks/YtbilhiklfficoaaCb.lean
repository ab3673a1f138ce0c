/- A map of rows of numbers, each of which may begin anywhere in its block: what it tells of a text, and what a store leaves. -/
import Derived.Test.YtbilhiklfficoaaCa
import Derived.Deep.AppendSrc
set_option linter.unusedVariables false
set_option linter.unusedSimpArgs false
namespace Go.Proofs.Ytbilhiklfficoaa
open Go Go.RowKit

theorem frz_of_block {W : World} {g : Nat} {cs : Array Value} {e : TypeId} (h : W.heap[g]? = some (.cells cs e (0, 0))) {i : Nat} : W.frozen? ⟨g, i, none⟩ = false := by
  simp [World.frozen?, h]
theorem cell_of_block {W : World} {g i : Nat} {cs : Array Value} {e : TypeId} {v : Value} (h : W.heap[g]? = some (.cells cs e (0, 0))) (hv : cs[i]? = some v) : W.cell? ⟨g, i, none⟩ = some v := by
  simp [World.cell?, h, hv]
theorem setBlk {w : World} {k i : Nat} {cs : Array Value} {t : TypeId} (h : w.heap[k]? = some (.cells cs t (0, 0))) (v : Value) : (w.setCell ⟨k, i, none⟩ v).heap[k]? = some (.cells (cs.setIfInBounds i v) t (0, 0)) := by
  have hlt := lt_of_block h
  have h' : w.heap[k] = .cells cs t (0, 0) := by simpa [Array.getElem?_eq_getElem hlt] using h
  show (w.heap.modify k _)[k]? = _
  rw [Array.getElem?_eq_getElem (by simpa using hlt), Array.getElem_modify_self, h']
  rfl
theorem setOff (w : World) (k i : Nat) (v : Value) : (∀ b, b ≠ k → (w.setCell ⟨k, i, none⟩ v).heap[b]? = w.heap[b]?) ∧ (w.setCell ⟨k, i, none⟩ v).heap.size = w.heap.size := ⟨fun b hb => Below.heap_setCell _ _ _ _ hb, by simp [World.setCell]⟩

/-- The block of a row that has room for something. -/
def blkX : Value → Option Nat
  | .slice (some a) _ (_ + 1) => some a.block
  | _ => none

/-- A row of numbers, wherever it begins in its block. -/
def RX (w : World) (v : Value) (zs : List Int) : Prop :=
  (zs = [] ∧ ∃ a, v = .slice a 0 0) ∨
  ∃ b off cap cs, v = .slice (some ⟨b, off, none⟩) zs.length (cap + 1) ∧ zs.length ≤ cap + 1 ∧ cap + 1 ≤ maxLen ∧ w.heap[b]? = some (.cells cs 3 (0, 0)) ∧ off + (cap + 1) ≤ cs.size ∧ ∀ i (h : i < zs.length), cs[off + i]? = some (.int .i64 zs[i])

section
variable {w w' : World} {v : Value} {zs : List Int}
theorem RX.same (h : RX w v zs) (hk : ∀ b, blkX v = some b → w'.heap[b]? = w.heap[b]?) : RX w' v zs := by
  rcases h with h | ⟨b, off, cap, cs, rfl, h1, h2, h3, h4, h5⟩
  · exact .inl h
  · exact .inr ⟨b, off, cap, cs, rfl, h1, h2, (hk b rfl).trans h3, h4, h5⟩
theorem RX.form (h : RX w v zs) : ∃ a cap, v = .slice a zs.length cap := by
  rcases h with ⟨rfl, a, rfl⟩ | ⟨b, off, cap, cs, rfl, _⟩
  · exact ⟨a, 0, rfl⟩
  · exact ⟨_, _, rfl⟩
theorem RX.lt (h : RX w v zs) {b : Nat} (hb : blkX v = some b) : b < w.heap.size := by
  rcases h with ⟨rfl, a, rfl⟩ | ⟨b', off, cap, cs, rfl, _, _, h3, _⟩
  · cases a <;> simp [blkX] at hb
  · simp [blkX] at hb; subst hb; exact lt_of_block h3
/-- The row behind its first number. -/
theorem RX.tail {z : Int} {r : List Int} {b off cap : Nat} (h : RX w (.slice (some ⟨b, off, none⟩) (r.length + 1) (cap + 1)) (z :: r)) :
    w.cell? ⟨b, off, none⟩ = some (.int .i64 z) ∧ r.length ≤ cap ∧ cap + 1 ≤ maxLen ∧ b < w.heap.size ∧ (cap = 0 → RX w (.slice (some ⟨b, off, none⟩) 0 0) r) ∧ (cap ≠ 0 → RX w (.slice (some ⟨b, off + 1, none⟩) r.length cap) r) := by
  rcases h with ⟨h, _⟩ | ⟨b', off', cap', cs, e, h1, h2, h3, h4, h5⟩
  · simp at h
  · simp at e
    obtain ⟨⟨rfl, rfl⟩, rfl⟩ := e
    have h1' : r.length ≤ cap := by simpa using h1
    refine ⟨?_, h1', h2, lt_of_block h3, fun h0 => ?_, fun h0 => ?_⟩
    · have := h5 0 (by simp)
      exact cell_of_block h3 (by simpa using this)
    · obtain rfl : r = [] := List.eq_nil_of_length_eq_zero (by omega)
      exact .inl ⟨rfl, _, rfl⟩
    · obtain ⟨c', rfl⟩ : ∃ c', cap = c' + 1 := ⟨cap - 1, by omega⟩
      refine .inr ⟨b, off + 1, c', cs, rfl, h1', by omega, h3, by omega, fun i hi => ?_⟩
      have := h5 (i + 1) (by simpa using hi)
      rw [show off + 1 + i = off + (i + 1) by omega]
      simpa using this
/-- A number is put behind a row. -/
theorem run_append_rx (h : RX w v zs) (ty : TypeId) (ad : Addr) (n : Int) (hc : w.cell? ad = some (.int .i64 n)) (hl : zs.length ≤ 4000000000) :
    ∃ a' cap' w', (Builtin.append_ #[24, 24] ty #[v, .slice (some ad) 1 1]).run Try.prog w = .ok (.slice a' (zs.length + 1) cap') w' ∧ RX w' (.slice a' (zs.length + 1) cap') (zs ++ [n]) ∧ w.grownBy w' (blkX v) ∧ (∀ b, blkX (.slice a' (zs.length + 1) cap') = some b → blkX v = some b ∨ b = w.heap.size) := by
  obtain ⟨i0, hi, hz0, hz1, hz2⟩ := info_parts Try.info3
  have hsrc : Src Try.prog i0.size 24 (.slice (some ad) 1 1) 1 [.int .i64 n] w := Src.ofSlice (P := Try.prog) w Try.underlying24 ad 1 1 [.int .i64 n] (by simp [hz1]) (fun j u hu => by
    cases j with
    | zero =>
      simp at hu; subst hu
      have : ad.add 0 = ad := by unfold Addr.add; split <;> simp_all
      rw [this]; exact hc
    | succ j => simp at hu) (by simp [Value.oneCell'])
  have grow : ∀ (bs : Option Addr) (cap : Nat), v = .slice bs zs.length cap → cap ≤ zs.length → (Builtin.firstCells i0.size zs.length (.slice bs zs.length cap)).run Try.prog w.drew = .ok (zs.map (Value.int .i64)).toArray w.drew →
      ∃ a' cap' w', (Builtin.append_ #[24, 24] ty #[v, .slice (some ad) 1 1]).run Try.prog w = .ok (.slice a' (zs.length + 1) cap') w' ∧ RX w' (.slice a' (zs.length + 1) cap') (zs ++ [n]) ∧ w.grownBy w' (blkX v) ∧ (∀ b, blkX (.slice a' (zs.length + 1) cap') = some b → blkX v = some b ∨ b = w.heap.size) := by
    rintro bs cap rfl hcap hold
    have hrun := run_append_grow_src (P := Try.prog) w 24 24 ty 3 i0 (.int .i64 0) Try.underlying24 hi hz0 bs zs.length cap (zs.map (Value.int .i64)) hold (.slice (some ad) 1 1) 1 [.int .i64 n] hsrc (by omega) (by omega) (growslice_fits (by omega) (by rw [hz2]; omega))
    have hge := grownCap_ge w (zs.length + 1) cap 3
    have hcm := grownCap_le_maxLen w (zs.length + 1) cap 3 (by unfold maxLen; omega)
    generalize grownCap w (zs.length + 1) cap 3 = C at *
    obtain ⟨C', rfl⟩ : ∃ C', C = C' + 1 := ⟨C - 1, by omega⟩
    refine ⟨_, _, _, hrun, .inr ⟨w.heap.size, 0, C', _, by simp, by simpa using hge, hcm, heap_alloc_new w.drew _, ?_, fun i hi2 => ?_⟩, ⟨rfl, rfl, rfl, ?_, fun b hb _ => Below.heap_alloc w.drew _ b hb⟩, fun b hb => ?_⟩
    · simp [size_zeroCells]
      have : (Value.int .i64 0).cells.size = 1 := rfl
      rw [this]; omega
    · simp at hi2
      rw [Nat.zero_add, Array.getElem?_append_left (by simp; omega)]
      simp only [List.getElem?_toArray]
      rw [← List.map_singleton (f := Value.int .i64), ← List.map_append, List.getElem?_map, List.getElem?_eq_getElem (by simp; omega)]
      rfl
    · show w.heap.size ≤ (w.drew.alloc _).heap.size
      simp
    · simp [blkX] at hb
      exact .inr hb.symm
  rcases h with ⟨rfl, a, rfl⟩ | ⟨b, off, cap, cs, rfl, h1, h2, h3, h4, h5⟩
  · refine grow a 0 rfl (Nat.le_refl _) ?_
    cases a with
    | none => exact run_firstCells_none _ _ _ _ _
    | some ad' => exact run_firstCells_some w.drew i0.size 0 ad' 0 0 [] (by simp) (by simp)
  · by_cases hroom : zs.length + 1 ≤ cap + 1
    · have hsz : off + zs.length < cs.size := by omega
      have hcell : w.cell? ⟨b, off + zs.length, none⟩ = some cs[off + zs.length] := cell_of_block h3 (Array.getElem?_eq_getElem hsz)
      have hrun := run_append_room_src (P := Try.prog) w 24 24 ty 3 i0 Try.underlying24 hi b off zs.length (cap + 1) (.slice (some ad) 1 1) 1 [.int .i64 n] hsrc hroom (fun j hj => by
        simp at hj; subst hj
        rw [hz1, Nat.mul_one, Nat.add_zero, hcell]; rfl) (fun j hj => frz_of_block h3)
      rw [hz1, Nat.mul_one] at hrun
      have hset : w.setCells b (off + zs.length) [.int .i64 n] = w.setCell ⟨b, off + zs.length, none⟩ (.int .i64 n) := rfl
      rw [hset] at hrun
      obtain ⟨o1, o2⟩ := setOff w b (off + zs.length) (.int .i64 n)
      refine ⟨_, _, _, hrun, .inr ⟨b, off, cap, _, by simp, by simpa using hroom, h2, setBlk h3 _, by simpa using h4, fun i hi2 => ?_⟩, ⟨rfl, rfl, rfl, by rw [o2]; exact Nat.le_refl _, fun q _ hq => o1 q (fun e => hq (by rw [e]; rfl))⟩, fun q hq => .inl hq⟩
      simp at hi2
      rw [Array.getElem?_setIfInBounds]
      by_cases e : i = zs.length
      · subst e
        rw [if_pos rfl, if_pos hsz]; simp
      · rw [if_neg (by omega), h5 i (by omega), List.getElem_append_left (by omega)]
    · refine grow (some ⟨b, off, none⟩) (cap + 1) rfl (by omega) ?_
      refine run_firstCells_some w.drew i0.size zs.length ⟨b, off, none⟩ zs.length (cap + 1) (zs.map (Value.int .i64)) (by simp [hz1]) (fun j u hu => ?_)
      have hadd : (⟨b, off, none⟩ : Addr).add j = ⟨b, off + j, none⟩ := by unfold Addr.add; split <;> simp_all
      rw [hadd]
      rw [List.getElem?_map] at hu
      obtain ⟨z, hz, rfl⟩ := Option.map_eq_some_iff.1 hu
      obtain ⟨hj, hz'⟩ := List.getElem?_eq_some_iff.1 hz
      have := h5 j hj
      rw [hz'] at this
      exact cell_of_block (W := w) h3 this
end

/-- At a step of a region that draws its order. -/
theorem step_append_rx {w : World} {ops : Array Oper} {o : Oper} {a : Act} {K : Act → World → Prop} {Q : Exit → Act → World → Prop} {E : Prop} (hgd : o.guard = none) (s x : Operand)
    (ho : o.op = .call { callee := .builtin .append, args := #[s, x], argTypes := #[24, 24] })
    {v : Value} {zs : List Int} (hs : a.eval s = v) (h : RX w v zs) (ad : Addr) (n : Int) (hx : a.eval x = .slice (some ad) 1 1) (hc : w.cell? ad = some (.int .i64 n)) (hl : zs.length ≤ 4000000000)
    (hK : ∀ a' cap' w', RX w' (.slice a' (zs.length + 1) cap') (zs ++ [n]) → w.grownBy w' (blkX v) → (∀ b, blkX (.slice a' (zs.length + 1) cap') = some b → blkX v = some b ∨ b = w.heap.size) → K (a.put o.dst (.slice a' (zs.length + 1) cap')) w') :
    if Region.wanted o (yielded ops a.tmps) = true then Oper.wp Try.prog o a w K Q else E := by
  have hw : Region.wanted o (yielded ops a.tmps) = true := by simp [Region.wanted, hgd]
  rw [if_pos hw]
  obtain ⟨a', cap', w', hr, h2, h3, h4⟩ := run_append_rx h o.type ad n hc hl
  unfold Oper.wp execOp
  simp only [ho, resolve, invoke, builtin, Sem.run_bind, Sem.run_pure, Result.andThen_ok, List.map_toArray, List.map_cons, List.map_nil, hs, hx, hr]
  exact hK a' cap' w' h2 h3 h4
end Go.Proofs.Ytbilhiklfficoaa
