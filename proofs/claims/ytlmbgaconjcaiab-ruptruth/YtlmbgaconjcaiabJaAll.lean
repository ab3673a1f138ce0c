/- Joined: A map of rows of numbers, each of which may begin anywhere in its block: what it tells of a text, and what a store leaves. The keeper's map of clauses that are alike, as rows that may begin anywhere: what it tells of a text, and what a store leaves. Contract: a clause is noted by what is common to all that are like it, in whatever map of rows. Contract: each clause that is there is noted by its text, in whatever map of rows. Contracts: whether a clause is at hand by units, of a keeper whose level 0 is empty: it stays so. A keeper's two maps in memory, beside its propagator: what they tell, and what leaves them as they are. -/
import Derived.Test.YtlmbgaconjcaiabVFAll
import Derived.Deep.AppendSrc
import Derived.Test.YtlmbgaconjcaiabRIAll
set_option linter.unusedVariables false
set_option linter.unusedSimpArgs false
namespace Go.Proofs.Ytlmbgaconjcaiab
open Go Go.RowKit Go.ChangeMaps Go.MapKept Go.ChangeShapes
open Go.WideElems (Fit rd rg pl rd_val elemAt)

/-- The block of a row that has room for something. -/
def blkX : Value → Option Nat
  | .slice (some a) _ (_ + 1) => some a.block
  | _ => none

/-- A row of numbers, wherever it begins in its block. -/
def RX (w : World) (v : Value) (zs : List Int) : Prop :=
  (zs = [] ∧ ∃ a, v = .slice a 0 0) ∨
  ∃ b off cap cs, v = .slice (some ⟨b, off, none⟩) zs.length (cap + 1) ∧ zs.length ≤ cap + 1 ∧ cap + 1 ≤ maxLen ∧ w.heap[b]? = some (.cells cs 3 (0, 0)) ∧ off + (cap + 1) ≤ cs.size ∧ ∀ i (h : i < zs.length), cs[off + i]? = some (.int .i64 zs[i])

section
variable {w w' : World} {v : Value} {zs : List Int}
theorem RX.same (h : RX w v zs) (hk : ∀ b, blkX v = some b → w'.heap[b]? = w.heap[b]?) : RX w' v zs := by
  rcases h with h | ⟨b, off, cap, cs, rfl, h1, h2, h3, h4, h5⟩
  · exact .inl h
  · exact .inr ⟨b, off, cap, cs, rfl, h1, h2, (hk b rfl).trans h3, h4, h5⟩
theorem RX.form (h : RX w v zs) : ∃ a cap, v = .slice a zs.length cap := by
  rcases h with ⟨rfl, a, rfl⟩ | ⟨b, off, cap, cs, rfl, _⟩
  · exact ⟨a, 0, rfl⟩
  · exact ⟨_, _, rfl⟩
theorem RX.lt (h : RX w v zs) {b : Nat} (hb : blkX v = some b) : b < w.heap.size := by
  rcases h with ⟨rfl, a, rfl⟩ | ⟨b', off, cap, cs, rfl, _, _, h3, _⟩
  · cases a <;> simp [blkX] at hb
  · simp [blkX] at hb; subst hb; exact lt_of_block h3
/-- The row behind its first number. -/
theorem RX.tail {z : Int} {r : List Int} {b off cap : Nat} (h : RX w (.slice (some ⟨b, off, none⟩) (r.length + 1) (cap + 1)) (z :: r)) :
    w.cell? ⟨b, off, none⟩ = some (.int .i64 z) ∧ r.length ≤ cap ∧ cap + 1 ≤ maxLen ∧ b < w.heap.size ∧ (cap = 0 → RX w (.slice (some ⟨b, off, none⟩) 0 0) r) ∧ (cap ≠ 0 → RX w (.slice (some ⟨b, off + 1, none⟩) r.length cap) r) := by
  rcases h with ⟨h, _⟩ | ⟨b', off', cap', cs, e, h1, h2, h3, h4, h5⟩
  · simp at h
  · simp at e
    obtain ⟨⟨rfl, rfl⟩, rfl⟩ := e
    have h1' : r.length ≤ cap := by simpa using h1
    refine ⟨?_, h1', h2, lt_of_block h3, fun h0 => ?_, fun h0 => ?_⟩
    · have := h5 0 (by simp)
      exact cell_of_block h3 (by simpa using this)
    · obtain rfl : r = [] := List.eq_nil_of_length_eq_zero (by omega)
      exact .inl ⟨rfl, _, rfl⟩
    · obtain ⟨c', rfl⟩ : ∃ c', cap = c' + 1 := ⟨cap - 1, by omega⟩
      refine .inr ⟨b, off + 1, c', cs, rfl, h1', by omega, h3, by omega, fun i hi => ?_⟩
      have := h5 (i + 1) (by simpa using hi)
      rw [show off + 1 + i = off + (i + 1) by omega]
      simpa using this
/-- A number is put behind a row. -/
theorem run_append_rx (h : RX w v zs) (ty : TypeId) (ad : Addr) (n : Int) (hc : w.cell? ad = some (.int .i64 n)) (hl : zs.length ≤ 4000000000) :
    ∃ a' cap' w', (Builtin.append_ #[32, 32] ty #[v, .slice (some ad) 1 1]).run Try.prog w = .ok (.slice a' (zs.length + 1) cap') w' ∧ RX w' (.slice a' (zs.length + 1) cap') (zs ++ [n]) ∧ w.grownBy w' (blkX v) ∧ (∀ b, blkX (.slice a' (zs.length + 1) cap') = some b → blkX v = some b ∨ b = w.heap.size) := by
  obtain ⟨i0, hi, hz0, hz1, hz2⟩ := info_parts Try.info3
  have hsrc : Src Try.prog i0.size 32 (.slice (some ad) 1 1) 1 [.int .i64 n] w := Src.ofSlice (P := Try.prog) w Try.underlying32 ad 1 1 [.int .i64 n] (by simp [hz1]) (fun j u hu => by
    cases j with
    | zero =>
      simp at hu; subst hu
      have : ad.add 0 = ad := by unfold Addr.add; split <;> simp_all
      rw [this]; exact hc
    | succ j => simp at hu) (by simp [Value.oneCell'])
  have grow : ∀ (bs : Option Addr) (cap : Nat), v = .slice bs zs.length cap → cap ≤ zs.length → (Builtin.firstCells i0.size zs.length (.slice bs zs.length cap)).run Try.prog w.drew = .ok (zs.map (Value.int .i64)).toArray w.drew →
      ∃ a' cap' w', (Builtin.append_ #[32, 32] ty #[v, .slice (some ad) 1 1]).run Try.prog w = .ok (.slice a' (zs.length + 1) cap') w' ∧ RX w' (.slice a' (zs.length + 1) cap') (zs ++ [n]) ∧ w.grownBy w' (blkX v) ∧ (∀ b, blkX (.slice a' (zs.length + 1) cap') = some b → blkX v = some b ∨ b = w.heap.size) := by
    rintro bs cap rfl hcap hold
    have hrun := run_append_grow_src (P := Try.prog) w 32 32 ty 3 i0 (.int .i64 0) Try.underlying32 hi hz0 bs zs.length cap (zs.map (Value.int .i64)) hold (.slice (some ad) 1 1) 1 [.int .i64 n] hsrc (by omega) (by omega) (growslice_fits (by omega) (by rw [hz2]; omega))
    have hge := grownCap_ge w (zs.length + 1) cap 3
    have hcm := grownCap_le_maxLen w (zs.length + 1) cap 3 (by unfold maxLen; omega)
    generalize grownCap w (zs.length + 1) cap 3 = C at *
    obtain ⟨C', rfl⟩ : ∃ C', C = C' + 1 := ⟨C - 1, by omega⟩
    refine ⟨_, _, _, hrun, .inr ⟨w.heap.size, 0, C', _, by simp, by simpa using hge, hcm, heap_alloc_new w.drew _, ?_, fun i hi2 => ?_⟩, ⟨rfl, rfl, rfl, ?_, fun b hb _ => Below.heap_alloc w.drew _ b hb⟩, fun b hb => ?_⟩
    · simp [size_zeroCells]
      have : (Value.int .i64 0).cells.size = 1 := rfl
      rw [this]; omega
    · simp at hi2
      rw [Nat.zero_add, Array.getElem?_append_left (by simp; omega)]
      simp only [List.getElem?_toArray]
      rw [← List.map_singleton (f := Value.int .i64), ← List.map_append, List.getElem?_map, List.getElem?_eq_getElem (by simp; omega)]
      rfl
    · show w.heap.size ≤ (w.drew.alloc _).heap.size
      simp
    · simp [blkX] at hb
      exact .inr hb.symm
  rcases h with ⟨rfl, a, rfl⟩ | ⟨b, off, cap, cs, rfl, h1, h2, h3, h4, h5⟩
  · refine grow a 0 rfl (Nat.le_refl _) ?_
    cases a with
    | none => exact run_firstCells_none _ _ _ _ _
    | some ad' => exact run_firstCells_some w.drew i0.size 0 ad' 0 0 [] (by simp) (by simp)
  · by_cases hroom : zs.length + 1 ≤ cap + 1
    · have hsz : off + zs.length < cs.size := by omega
      have hcell : w.cell? ⟨b, off + zs.length, none⟩ = some cs[off + zs.length] := cell_of_block h3 (Array.getElem?_eq_getElem hsz)
      have hrun := run_append_room_src (P := Try.prog) w 32 32 ty 3 i0 Try.underlying32 hi b off zs.length (cap + 1) (.slice (some ad) 1 1) 1 [.int .i64 n] hsrc hroom (fun j hj => by
        simp at hj; subst hj
        rw [hz1, Nat.mul_one, Nat.add_zero, hcell]; rfl) (fun j hj => frz_of_block h3)
      rw [hz1, Nat.mul_one] at hrun
      have hset : w.setCells b (off + zs.length) [.int .i64 n] = w.setCell ⟨b, off + zs.length, none⟩ (.int .i64 n) := rfl
      rw [hset] at hrun
      obtain ⟨o1, o2⟩ := setOff w b (off + zs.length) (.int .i64 n)
      refine ⟨_, _, _, hrun, .inr ⟨b, off, cap, _, by simp, by simpa using hroom, h2, setBlk h3 _, by simpa using h4, fun i hi2 => ?_⟩, ⟨rfl, rfl, rfl, by rw [o2]; exact Nat.le_refl _, fun q _ hq => o1 q (fun e => hq (by rw [e]; rfl))⟩, fun q hq => .inl hq⟩
      simp at hi2
      rw [Array.getElem?_setIfInBounds]
      by_cases e : i = zs.length
      · subst e
        rw [if_pos rfl, if_pos hsz]; simp
      · rw [if_neg (by omega), h5 i (by omega), List.getElem_append_left (by omega)]
    · refine grow (some ⟨b, off, none⟩) (cap + 1) rfl (by omega) ?_
      refine run_firstCells_some w.drew i0.size zs.length ⟨b, off, none⟩ zs.length (cap + 1) (zs.map (Value.int .i64)) (by simp [hz1]) (fun j u hu => ?_)
      have hadd : (⟨b, off, none⟩ : Addr).add j = ⟨b, off + j, none⟩ := by unfold Addr.add; split <;> simp_all
      rw [hadd]
      rw [List.getElem?_map] at hu
      obtain ⟨z, hz, rfl⟩ := Option.map_eq_some_iff.1 hu
      obtain ⟨hj, hz'⟩ := List.getElem?_eq_some_iff.1 hz
      have := h5 j hj
      rw [hz'] at this
      exact cell_of_block (W := w) h3 this
end

/-- At a step of a region that draws its order. -/
theorem step_append_rx {w : World} {ops : Array Oper} {o : Oper} {a : Act} {K : Act → World → Prop} {Q : Exit → Act → World → Prop} {E : Prop} (hgd : o.guard = none) (s x : Operand)
    (ho : o.op = .call { callee := .builtin .append, args := #[s, x], argTypes := #[32, 32] })
    {v : Value} {zs : List Int} (hs : a.eval s = v) (h : RX w v zs) (ad : Addr) (n : Int) (hx : a.eval x = .slice (some ad) 1 1) (hc : w.cell? ad = some (.int .i64 n)) (hl : zs.length ≤ 4000000000)
    (hK : ∀ a' cap' w', RX w' (.slice a' (zs.length + 1) cap') (zs ++ [n]) → w.grownBy w' (blkX v) → (∀ b, blkX (.slice a' (zs.length + 1) cap') = some b → blkX v = some b ∨ b = w.heap.size) → K (a.put o.dst (.slice a' (zs.length + 1) cap')) w') :
    if Region.wanted o (yielded ops a.tmps) = true then Oper.wp Try.prog o a w K Q else E := by
  have hw : Region.wanted o (yielded ops a.tmps) = true := by simp [Region.wanted, hgd]
  rw [if_pos hw]
  obtain ⟨a', cap', w', hr, h2, h3, h4⟩ := run_append_rx h o.type ad n hc hl
  unfold Oper.wp execOp
  simp only [ho, resolve, invoke, builtin, Sem.run_bind, Sem.run_pure, Result.andThen_ok, List.map_toArray, List.map_cons, List.map_nil, hs, hx, hr]
  exact hK a' cap' w' h2 h3 h4
end Go.Proofs.Ytlmbgaconjcaiab

namespace Go.Proofs.Ytlmbgaconjcaiab
open Go Go.RowKit Go.ChangeMaps Go.MapKept Go.ChangeShapes
open Go.WideElems (Fit rd rg pl rd_val elemAt)

/-- A reader that looks at nothing. -/
def R0 : Value → Option (DataW Unit × List MemPlace) := fun _ => some (.nil, [])

/-- A map of rows by texts; its blocks. -/
structure Alk (A : Nat → Bool) (w : World) (g n : Nat) (F : List UInt8 → List Int) : Prop where
  body : ∃ es clock, w.heap[g]? = some (.map es clock) ∧ WideElems.Fit Try.prog 9 R0 es clock ∧ es.size ≤ n ∧
     (∀ x ∈ es.toList, ∀ T : ByteArray, x.key = .string T → RX w x.val (F T.data.toList) ∧ (F T.data.toList).length ≤ n ∧ ∀ b, blkX x.val = some b → A b = true ∧ b ≠ g) ∧
     (∀ T : ByteArray, T.size ≤ maxLen → (∀ x ∈ es.toList, x.key ≠ .string T) → F T.data.toList = []) ∧
     (∀ x ∈ es.toList, ∀ y ∈ es.toList, x.key ≠ y.key → ∀ b, blkX x.val = some b → blkX y.val ≠ some b)
  ag : A g = true
  lt : ∀ b, A b = true → b < w.heap.size

theorem nodup_le {α : Type} : ∀ {l m : List α}, l.Nodup → (∀ x ∈ l, x ∈ m) → l.length ≤ m.length
  | [], m, _, _ => Nat.zero_le _
  | x :: l, m, hn, hs => by
    rw [List.nodup_cons] at hn
    obtain ⟨m1, m2, rfl⟩ := List.append_of_mem (hs x (by simp))
    have := nodup_le (m := m1 ++ m2) hn.2 (fun y hy => by
      have h1 := hs y (List.mem_cons_of_mem _ hy)
      rcases List.mem_append.1 h1 with h2 | h2
      · exact List.mem_append_left _ h2
      · rcases List.mem_cons.1 h2 with h3 | h3
        · subst h3; exact absurd hy hn.1
        · exact List.mem_append_right _ h3)
    simp at this ⊢
    omega

section
variable {A A' : Nat → Bool} {w w' : World} {g n : Nat} {F : List UInt8 → List Int}
theorem Alk.same (h : Alk A w g n F) (hk : ∀ b, A b = true → w'.heap[b]? = w.heap[b]?) (hs : w.heap.size ≤ w'.heap.size) : Alk A w' g n F := by
  obtain ⟨⟨es, clock, hb, Ft, h1, h2, h3, h4⟩, hg, hl⟩ := h
  exact ⟨⟨es, clock, (hk g hg).trans hb, Ft, h1, fun x hx T e => by
    obtain ⟨q1, q2, q3⟩ := h2 x hx T e
    exact ⟨q1.same (fun b hb => hk b (q3 b hb).1), q2, q3⟩, h3, h4⟩, hg, fun b hb => Nat.lt_of_lt_of_le (hl b hb) hs⟩
theorem Alk.mono {m : Nat} (h : Alk A w g n F) (hm : n ≤ m) : Alk A w g m F := by
  obtain ⟨⟨es, clock, hb, Ft, h1, h2, h3, h4⟩, hg, hl⟩ := h
  exact ⟨⟨es, clock, hb, Ft, Nat.le_trans h1 hm, fun x hx T e => by
    obtain ⟨q1, q2, q3⟩ := h2 x hx T e
    exact ⟨q1, Nat.le_trans q2 hm, q3⟩, h3, h4⟩, hg, hl⟩
theorem Alk.wide (h : Alk A w g n F) (ha : ∀ b, A b = true → A' b = true) (hl : ∀ b, A' b = true → b < w.heap.size) : Alk A' w g n F := by
  obtain ⟨⟨es, clock, hb, Ft, h1, h2, h3, h4⟩, hg, _⟩ := h
  exact ⟨⟨es, clock, hb, Ft, h1, fun x hx T e => by
    obtain ⟨q1, q2, q3⟩ := h2 x hx T e
    exact ⟨q1, q2, fun b hb => ⟨ha b (q3 b hb).1, (q3 b hb).2⟩⟩, h3, h4⟩, ha g hg, hl⟩
theorem alk_empty (hb : w.heap[g]? = some (.map #[] 0)) (hg : A g = true) (hl : ∀ b, A b = true → b < w.heap.size) : Alk A w g 0 (fun _ => []) :=
  ⟨⟨#[], 0, hb, ⟨by simp, MapKept.stamped_empty 0, by simp⟩, Nat.le_refl _, by simp, fun _ _ _ => rfl, by simp⟩, hg, hl⟩

/-- A text's row, and the way back. -/
theorem Alk.at (h : Alk A w g n F) (hn : n < maxLen) (T : ByteArray) (hT : T.size ≤ maxLen) :
    ∃ a cap, (Instr.lookup 50 (.map (some g)) (.string T) false).run Try.prog w = .ok (.slice a (F T.data.toList).length cap) w ∧ RX w (.slice a (F T.data.toList).length cap) (F T.data.toList) ∧ (F T.data.toList).length ≤ n ∧ (∀ b, blkX (.slice a (F T.data.toList).length cap) = some b → A b = true ∧ b ≠ g) ∧
      (∀ W', W'.heap[g]? = w.heap[g]? → (Instr.lookup 50 (.map (some g)) (.string T) false).run Try.prog W' = .ok (.slice a (F T.data.toList).length cap) W') ∧
      ∀ (A' : Nat → Bool) (w1 : World) (v' : Value) (zs' : List Int), (∀ b, A b = true → blkX (.slice a (F T.data.toList).length cap) ≠ some b → w1.heap[b]? = w.heap[b]?) → RX w1 v' zs' → zs'.length ≤ n + 1 →
        (∀ b, blkX v' = some b → A' b = true ∧ b ≠ g ∧ (blkX (.slice a (F T.data.toList).length cap) = some b ∨ A b = false)) → (∀ b, A b = true → A' b = true) → (∀ b, A' b = true → b < w1.heap.size) →
        ∃ w2, (Instr.mapUpdate 50 (.map (some g)) (.string T) v').run Try.prog w1 = .ok () w2 ∧ Alk A' w2 g (n + 1) (updS F T.data.toList zs') ∧ w1.grownBy w2 (some g) := by
  obtain ⟨⟨es, clock, hb, Ft, h1, h2, h3, h4⟩, hg, hl⟩ := h
  have K := law9
  have hkey := WideMaps.keyOf_string_mk Try.underlying9 hT
  have look : ∃ a cap, (∀ W', W'.heap[g]? = w.heap[g]? → (Instr.lookup 50 (.map (some g)) (.string T) false).run Try.prog W' = .ok (.slice a (F T.data.toList).length cap) W') ∧ RX w (.slice a (F T.data.toList).length cap) (F T.data.toList) ∧ (F T.data.toList).length ≤ n ∧ (∀ b, blkX (.slice a (F T.data.toList).length cap) = some b → A b = true ∧ b ≠ g) ∧
      (∀ x ∈ es.toList, x.key ≠ .string T → ∀ b, blkX (.slice a (F T.data.toList).length cap) = some b → blkX x.val ≠ some b) := by
    rcases Maps.fit_look false K Try.underlying50 (zero25 w) hb Ft hkey with ⟨q1, q2, _⟩ | ⟨e0, y, hm0, q3, q1, _⟩
    · have hF := h3 T hT q2
      rw [hF]
      refine ⟨none, 0, fun W' hW' => ?_, .inl ⟨rfl, none, rfl⟩, Nat.zero_le _, fun b hb => by simp [blkX] at hb, fun _ _ _ b hb => by simp [blkX] at hb⟩
      rcases Maps.fit_look false K Try.underlying50 (zero25 W') (hW'.trans hb) Ft hkey with ⟨r1, _, _⟩ | ⟨e1, y1, hm1, r3, r1, _⟩
      · simpa using r1
      · exact absurd r3 (q2 e1 hm1)
    · obtain ⟨r1, r2, r3⟩ := h2 e0 hm0 T q3
      obtain ⟨a, cap, ev⟩ := r1.form
      rw [ev] at r1 r3
      refine ⟨a, cap, fun W' hW' => ?_, r1, r2, r3, fun x hx hne b hb => ?_⟩
      · rcases Maps.fit_look false K Try.underlying50 (zero25 W') (hW'.trans hb) Ft hkey with ⟨s1, s2, _⟩ | ⟨e1, y1, hm1, s3, s1, _⟩
        · exact absurd q3 (s2 e0 hm0)
        · have := nodup_key Ft.stamped.2.2 hm0 hm1 (q3.trans s3.symm)
          subst this
          rw [ev] at s1
          simpa using s1
      · exact h4 e0 hm0 x hx (by rw [q3]; exact Ne.symm hne) b (by rw [ev]; exact hb)
  obtain ⟨a, cap, l1, l2, l3, l4, l5⟩ := look
  refine ⟨a, cap, l1 w rfl, l2, l3, l4, l1, ?_⟩
  intro A' w1 v' zs' k1 k3 k4 k5 k6 k7
  have hvg : blkX (.slice a (F T.data.toList).length cap) ≠ some g := fun e => (l4 g e).2 rfl
  have hb1 : w1.heap[g]? = some (.map es clock) := (k1 g hg hvg).trans hb
  obtain ⟨es', clock', hrun, Ft', hput, _, _, hwho⟩ := Maps.fit_store (R := R0) (R' := R0) K Try.underlying50 hb1 Ft (Nat.lt_of_le_of_lt h1 hn) (fun _ _ _ _ hz => hz) hkey (yv := (.nil, [])) (val := v') rfl
  have hb2 : (setBlock w1 g (.map es' clock')).heap[g]? = some (.map es' clock') := heap_setBlock_same hb1 _
  have hsz2 : (setBlock w1 g (.map es' clock')).heap.size = w1.heap.size := by simp [setBlock]
  have hoth : ∀ b, b ≠ g → (setBlock w1 g (.map es' clock')).heap[b]? = w1.heap[b]? := fun b hne => heap_setBlock_other hb1 _ hne
  have hhas : ∀ (S : ByteArray) (hS : S.size ≤ maxLen), (∀ x ∈ es'.toList, x.key ≠ .string S) → S ≠ T ∧ ∀ x ∈ es.toList, x.key ≠ .string S := by
    intro S hS hno
    have hkS := WideMaps.keyOf_string_mk (P := Try.prog) Try.underlying9 hS
    have hat : ∀ zd, (DataW.map ((es'.toList.map (rg Try.prog 9 R0)).foldr DataW.insert [])).atKey (.string S.data.toList) zd = zd := by
      rcases Maps.fit_look false K Try.underlying50 (zero25 _) hb2 Ft' hkS with ⟨_, _, r3⟩ | ⟨e1, y1, hm1, r3, _⟩
      · exact r3
      · exact absurd r3 (hno e1 hm1)
    rw [hput] at hat
    have hat2 : ∀ zd, ((DataW.map ((es.toList.map (rg Try.prog 9 R0)).foldr DataW.insert [])).put (.string T.data.toList) .nil).atKey (.string S.data.toList) zd = zd := hat
    have hne : S ≠ T := by
      rintro rfl
      have e1 := hat2 (.lit (.bool true))
      rw [Maps.atKey_put_same ⟨_, rfl⟩ (K.key hkS)] at e1
      simp at e1
    refine ⟨hne, fun x hx e => ?_⟩
    have hneL : (Lit.string S.data.toList) ≠ .string T.data.toList := by
      intro e2
      apply hne
      simp at e2
      cases S; cases T
      simp at e2
      rw [ByteArray.mk.injEq]
      exact e2
    have e1 := hat2 (.lit (.bool true))
    rw [Maps.atKey_put_other hneL] at e1
    rcases Maps.fit_look false K Try.underlying50 (zero25 w) hb Ft hkS with ⟨_, r2, _⟩ | ⟨e3, y3, hm3, r3, _, ry, r4, _⟩
    · exact r2 x hx e
    · rw [r4] at e1
      simp [R0] at ry
      rw [← ry] at e1
      simp at e1
  refine ⟨_, hrun, ⟨⟨es', clock', hb2, Ft', ?_, ?_, ?_, ?_⟩, k6 g hg, fun b hb => by rw [hsz2]; exact k7 b hb⟩, ⟨rfl, rfl, rfl, by rw [hsz2]; exact Nat.le_refl _, fun b _ hne => hoth b (fun e => hne (by rw [e]))⟩⟩
  · have := nodup_le (m := Value.string T :: es.toList.map (·.key)) Ft'.stamped.2.2 (fun x hx => by
      obtain ⟨y, hy, rfl⟩ := List.mem_map.1 hx
      rcases hwho y hy with ⟨q1, _⟩ | ⟨q1, _⟩
      · exact List.mem_cons_of_mem _ (List.mem_map_of_mem q1)
      · rw [q1]; exact List.mem_cons_self)
    simp at this
    omega
  · intro x hx S hS
    rcases hwho x hx with ⟨q1, q2⟩ | ⟨q1, q2⟩
    · have hne : S ≠ T := by rintro rfl; exact q2 hS
      have hneD : S.data.toList ≠ T.data.toList := by
        intro e2
        apply hne
        cases S; cases T
        simp at e2
        rw [ByteArray.mk.injEq]
        exact e2
      rw [updS_other _ _ hneD]
      obtain ⟨r1, r2, r3⟩ := h2 x q1 S hS
      refine ⟨r1.same (fun b hb => ?_), by omega, fun b hb => ⟨k6 b (r3 b hb).1, (r3 b hb).2⟩⟩
      rw [hoth b (r3 b hb).2]
      refine k1 b (r3 b hb).1 (fun e => ?_)
      exact l5 x q1 (by rw [hS]; intro e3; apply hne; simpa using e3) b e hb
    · have e : S = T := by rw [q1] at hS; simpa using hS.symm
      subst e
      rw [updS_same, q2]
      exact ⟨k3.same (fun b hb => hoth b (k5 b hb).2.1), k4, fun b hb => ⟨(k5 b hb).1, (k5 b hb).2.1⟩⟩
  · intro S hS hno
    obtain ⟨q1, q2⟩ := hhas S hS hno
    have hneD : S.data.toList ≠ T.data.toList := by
      intro e2
      apply q1
      cases S; cases T
      simp at e2
      rw [ByteArray.mk.injEq]
      exact e2
    rw [updS_other _ _ hneD]
    exact h3 S hS q2
  · intro x hx y hy hne b hbx hby
    rcases hwho x hx with ⟨q1, q2⟩ | ⟨q1, q2⟩
    · rcases hwho y hy with ⟨r1, r2⟩ | ⟨r1, r2⟩
      · exact h4 x q1 y r1 hne b hbx hby
      · rw [r2] at hby
        obtain ⟨_, _, k8⟩ := k5 b hby
        rcases k8 with k8 | k8
        · exact l5 x q1 q2 b k8 hbx
        · obtain ⟨l, hkl⟩ := Ft.keys x q1
          obtain ⟨S, hS⟩ : ∃ S : ByteArray, x.key = .string S := by
            have := K
            exact by
              obtain ⟨S, hS, _⟩ := WideMaps.string_of_keyOf Try.underlying9 hkl
              exact ⟨S, hS⟩
          have := ((h2 x q1 S hS).2.2 b hbx).1
          rw [k8] at this; simp at this
    · rcases hwho y hy with ⟨r1, r2⟩ | ⟨r1, r2⟩
      · rw [q2] at hbx
        obtain ⟨_, _, k8⟩ := k5 b hbx
        rcases k8 with k8 | k8
        · exact l5 y r1 r2 b k8 hby
        · obtain ⟨l, hkl⟩ := Ft.keys y r1
          obtain ⟨S, hS⟩ : ∃ S : ByteArray, y.key = .string S := by
            exact by
              obtain ⟨S, hS, _⟩ := WideMaps.string_of_keyOf Try.underlying9 hkl
              exact ⟨S, hS⟩
          have := ((h2 y r1 S hS).2.2 b hby).1
          rw [k8] at this; simp at this
      · exact hne (q1.trans r1.symm)
end
end Go.Proofs.Ytlmbgaconjcaiab

namespace Go.Proofs.Ytlmbgaconjcaiab
open Go.RowKit

/-- What is none of the map's stayed. -/
structure NA (A : Nat → Bool) (w w' : World) : Prop where
  os : w'.os = w.os
  tape : w'.tape = w.tape
  output : w'.output = w.output
  size : w.heap.size ≤ w'.heap.size
  keep : ∀ b, b < w.heap.size → A b = false → w'.heap[b]? = w.heap[b]?
section
variable {A A' : Nat → Bool} {w w' w'' : World}
theorem NA.refl (A : Nat → Bool) (w : World) : NA A w w := ⟨rfl, rfl, rfl, Nat.le_refl _, fun _ _ _ => rfl⟩
theorem NA.trans (h : NA A w w') (k : NA A' w' w'') (hA : ∀ b, b < w.heap.size → A b = false → A' b = false) : NA A w w'' :=
  ⟨k.os.trans h.os, k.tape.trans h.tape, k.output.trans h.output, Nat.le_trans h.size k.size, fun b hb hr => (k.keep b (Nat.lt_of_lt_of_le hb h.size) (hA b hb hr)).trans (h.keep b hb hr)⟩
theorem NA.below (h : Below w.heap.size w w') : NA A w w' := ⟨h.os, h.tape, h.output, h.size, fun b hb _ => h.block b hb⟩
theorem NA.grown {row : Option Nat} (h : w.grownBy w' row) (hr : ∀ b, row = some b → A b = true) : NA A w w' :=
  ⟨h.os, h.tape, h.output, h.size, fun b hb hk => h.block b hb (fun e => by rw [hr b e.symm] at hk; simp at hk)⟩
theorem NA.cell (h : NA A w w') {b o : Nat} (hb : b < w.heap.size) (hr : A b = false) : w'.cell? ⟨b, o, none⟩ = w.cell? ⟨b, o, none⟩ := World.cell?_of_block (a := ⟨b, o, none⟩) (h.keep b hb hr)
end

/-- The map's blocks, and all that are new. -/
def newA (A : Nat → Bool) (lo hi : Nat) : Nat → Bool := fun b => A b || (decide (lo ≤ b) && decide (b < hi))
theorem newA_old {A : Nat → Bool} {lo hi b : Nat} (h : A b = true) : newA A lo hi b = true := by simp [newA, h]
theorem newA_new {A : Nat → Bool} {lo hi b : Nat} (h1 : lo ≤ b) (h2 : b < hi) : newA A lo hi b = true := by simp [newA, h1, h2]
theorem newA_or {A : Nat → Bool} {lo hi b : Nat} (h : newA A lo hi b = true) : A b = true ∨ (lo ≤ b ∧ b < hi) := by simpa [newA] using h

/-- What noting leaves. -/
def NoteP (A : Nat → Bool) (w : World) (g sz : Nat) (f : List UInt8 → List Int) (w' : World) : Prop :=
  ∃ A', Alk A' w' g sz f ∧ NA A w w' ∧ (∀ b, A b = true → A' b = true) ∧ (∀ b, A' b = true → A b = true ∨ w.heap.size ≤ b)

set_option maxHeartbeats 4000000 in
set_option maxRecDepth 100000 in
theorem noteAlike_x {A : Nat → Bool} {w : World} {g sz k : Nat} {f : List UInt8 → List Int} (hk : w.cell? ⟨k, 5, none⟩ = some (.map (some g))) (hkA : A k = false) (hkl : k < w.heap.size)
    (hG : Alk A w g sz f) (n : Nat) (hn : n ≤ 1048576) (a : Option Addr) (cap : Nat) (c : List Int) (hr : Row w a c) (hl : c.length ≤ 4096) (hcap : a = none → cap = 0) (hsz : sz ≤ 4000000000)
    (hc : mayB c 1048576 = true) :
    Calls Try.prog 33 #[.pointer (some ⟨k, 0, none⟩), .int .i64 (n : Int), .slice a c.length cap] w fun e w' => e = .returned (.tuple #[]) ∧ NoteP A w g (sz + 1) (alkC n f c) w' := by
  have GC := hide (common_any a cap c w hr hl hcap hc)
  have hts := txt_size (order c)
  have hol := order_len c
  have HG := hide hG
  have HK := hide hk
  clear hG hr hc hk
  have HTS : Hid ((txt (order c)).size ≤ maxLen) := by unfold Hid maxLen; omega
  clear hts hol
  unfold alkC
  generalize txt (order c) = T at *
  go_enter Try.func33, Try.ntmps33
  go_upto_region 1 with (go_at_call 34; refine (unhide GC).mono ?_; rintro e w1 ⟨rfl, hb1⟩)
  have HN1 : Hid (NA A w w1) := NA.below hb1
  have hws : w.heap.size ≤ w1.heap.size := hb1.size
  have hG1 : Alk A w1 g sz f := HG.out.same (fun b hb => hb1.block b (HG.out.lt b hb)) hws
  have k5 : w1.cell? ⟨k, 5, none⟩ = some (.map (some g)) := (hb1.cell (p := ⟨k, 5, none⟩) hkl).trans HK.out
  obtain ⟨a1, cap1, hlook, hrx, hzl, hro, hlk, hback⟩ := hG1.at (by unfold maxLen; omega) T HTS.out
  have HRO := hide hro
  have HAG := hide hG1.ag
  have HBK := hide hback
  have HRX := hide hrx
  have HLT : Hid (∀ b, A b = true → b < w1.heap.size) := hG1.lt
  have HLW : Hid (∀ b, A b = true → b < w.heap.size) := HG.out.lt
  clear hG1 hb1 HG GC hro hback hrx
  generalize hzs : f T.data.toList = zs at *
  have HZS := hide hzs
  clear hzs
  have HAP : Hid (∀ (o : Obj) (a3 : Option Addr) (cap3 : Nat) (w3 : World), RX w3 (.slice a3 (zs.length + 1) cap3) (zs ++ [(n : Int)]) → (w1.alloc o).drew.grownBy w3 (blkX (.slice a1 zs.length cap1)) → (∀ b, blkX (.slice a3 (zs.length + 1) cap3) = some b → blkX (.slice a1 zs.length cap1) = some b ∨ b = (w1.alloc o).drew.heap.size) →
      w3.cell? ⟨k, 5, none⟩ = some (.map (some g)) ∧ ∃ w4, (Instr.mapUpdate 50 (.map (some g)) (.string T) (.slice a3 (zs.length + 1) cap3)).run Try.prog w3 = .ok () w4 ∧ Hid (NoteP A w g (sz + 1) (updS f T.data.toList (zs ++ [(n : Int)])) w4)) := by
    intro o a3 cap3 w3 hrx3 hg3 hat
    have hsA : (w1.alloc o).drew.heap.size = w1.heap.size + 1 := by show (w1.alloc o).heap.size = _; simp
    have hblk : ∀ b, b < w1.heap.size → blkX (.slice a1 zs.length cap1) ≠ some b → w3.heap[b]? = w1.heap[b]? := fun b hb hne => (hg3.block b (by rw [hsA]; omega) (fun e => hne e.symm)).trans (Below.heap_alloc w1 o b hb)
    have hs3 : w1.heap.size ≤ w3.heap.size := Nat.le_trans (by rw [hsA]; omega) hg3.size
    have hN13 : NA A w1 w3 := ⟨hg3.os, hg3.tape, hg3.output, hs3, fun b hb hA => hblk b hb (fun e => by rw [(HRO.out b e).1] at hA; simp at hA)⟩
    obtain ⟨w4, h1, h2, h3⟩ := HBK.out (newA A w.heap.size w3.heap.size) w3 (.slice a3 (zs.length + 1) cap3) (zs ++ [(n : Int)]) (fun b hb hne => hblk b (HLT.out b hb) hne) hrx3 (by simp; omega) (fun b hb => by
      have hlt3 := hrx3.lt hb
      rcases hat b hb with e | e
      · exact ⟨newA_old (HRO.out b e).1, (HRO.out b e).2, .inl e⟩
      · rw [hsA] at e
        refine ⟨newA_new (by omega) hlt3, ?_, .inr ?_⟩
        · have := HLT.out g HAG.out; omega
        · cases hA : A b with
          | false => rfl
          | true => have := HLT.out b hA; omega) (fun b hb => newA_old hb) (fun b hb => by
      rcases newA_or hb with e | e
      · exact Nat.lt_of_lt_of_le (HLT.out b e) hs3
      · exact e.2)
    have hN34 : NA A w3 w4 := NA.grown h3 (fun b e => by cases e; exact HAG.out)
    refine ⟨(hN13.cell (Nat.lt_of_lt_of_le hkl hws) hkA).trans k5, w4, h1, newA A w.heap.size w3.heap.size, h2, (HN1.out.trans hN13 (fun _ _ h => h)).trans hN34 (fun _ _ h => h), fun b hb => newA_old hb, fun b hb => ?_⟩
    rcases newA_or hb with e | e
    · exact .inl e
    · exact .inr e.1
  have hkf : ∀ o : Obj, (w1.alloc o).cell? ⟨k, 5, none⟩ = some (.map (some g)) := fun o => (World.cell?_of_block (a := ⟨k, 5, none⟩) (Below.heap_alloc w1 o k (Nat.lt_of_lt_of_le hkl hws))).trans k5
  have hlook1 : (Instr.lookup 50 (.map (some g)) (.string T) false).run Try.prog w1.drew = .ok (.slice a1 zs.length cap1) w1.drew := hlk w1.drew rfl
  have hlook2 : ∀ o, (Instr.lookup 50 (.map (some g)) (.string T) false).run Try.prog (w1.alloc o).drew = .ok (.slice a1 zs.length cap1) (w1.alloc o).drew := fun o => hlk (w1.alloc o).drew (Below.heap_alloc w1 o g (HLT.out g HAG.out))
  have HRX2 : Hid (∀ o, RX (w1.alloc o).drew (.slice a1 zs.length cap1) zs) := fun o => HRX.out.same (fun b hb => Below.heap_alloc w1 o b (HRX.out.lt hb))
  have hzl2 : zs.length ≤ 4000000000 := by omega
  clear HRX HBK HRO hlk
  go_region_law (refine step_append_rx rfl (.tmp 19) (.tmp 21) rfl (v := .slice a1 zs.length cap1) (zs := zs) (by rfl) (HRX2.out _) ⟨w1.heap.size, 0, none⟩ (n : Int) (by rfl) (cell_of_block (W := (w1.alloc (.cells #[.int .i64 (n : Int)] 3)).drew) (heap_alloc_new w1 _) rfl) hzl2 ?_; intro a3 cap3 w3 ho3 hgr3 hat3; obtain ⟨hk3, w4, hr4, HP4⟩ := HAP.out _ a3 cap3 w3 ho3 hgr3 hat3)
  all_goals
    clear HAP HRX2 hkf hk3 ho3 hgr3 hat3 hr4 k5 hlook
    go_wp2
    go_end0
    exact ⟨rfl, by rw [HZS.out]; exact HP4.out⟩
end Go.Proofs.Ytlmbgaconjcaiab

namespace Go.Proofs.Ytlmbgaconjcaiab
open Go.RowKit

theorem note_trans {A A' : Nat → Bool} {w wr w1 w2 : World} {g sz : Nat} {f : List UInt8 → List Int} (hN : NA A w wr) (h1 : ∀ b, A b = true → A' b = true) (h2 : ∀ b, A' b = true → A b = true ∨ w.heap.size ≤ b) (hb : Below wr.heap.size wr w1) (h : NoteP A' w1 g sz f w2) : NoteP A w g sz f w2 := by
  obtain ⟨A2, q1, q2, q3, q4⟩ := h
  have e1 : ∀ b, b < w.heap.size → A b = false → A' b = false := fun b hlt hA => by
    cases e : A' b with
    | false => rfl
    | true =>
      rcases h2 b e with h | h
      · rw [hA] at h; simp at h
      · omega
  refine ⟨A2, q1, (hN.trans (NA.below (A := A') hb) e1).trans q2 e1, fun b hA => q3 b (h1 b hA), fun b hA => ?_⟩
  rcases q4 b hA with h | h
  · exact h2 b h
  · exact .inr (Nat.le_trans hN.size (Nat.le_trans hb.size h))

set_option maxHeartbeats 4000000 in
set_option maxRecDepth 100000 in
theorem each_x {ρ : Nat → Rl} {A : Nat → Bool} {w : World} {g k B : Nat} {H : Hd} {s : PS} (hk0 : w.cell? ⟨k, 0, none⟩ = some (.pointer (some ⟨B, 0, none⟩))) (hk3 : w.cell? ⟨k, 3, none⟩ = some (.int .i64 (s.cls.length : Int))) (hk5 : w.cell? ⟨k, 5, none⟩ = some (.map (some g))) (hkA : A k = false) (hkl : k < w.heap.size)
    (hR : Rep ρ w B H s) (hI : Inv s) (hlits : ∀ c ∈ s.cls, c.lits.length ≤ 4096) (hcl : s.cls.length ≤ 10000)
    (hG : Alk A w g 0 (fun _ => [])) (hrs : ∀ b, ρ b ≠ oth → A b = false) :
    Calls Try.prog 32 #[.pointer (some ⟨k, 0, none⟩), .func (.func 33) #[.pointer (some ⟨k, 0, none⟩)] #[]] w fun e w' => e = .returned (.tuple #[]) ∧ NoteP A w g (s.cls.length) (alkL s.cls 0 (fun _ => [])) w' := by
  have HG : Hid (NoteP A w g 0 (alkL (s.cls.take 0) 0 (fun _ => [])) w) := ⟨A, hG, NA.refl _ _, fun _ h => h, fun _ h => .inl h⟩
  have HR := hide hR
  have HI := hide hI
  have HL := hide hlits
  have HRS := hide hrs
  clear hG hR hI hlits hrs
  go_enter Try.func32, Try.ntmps32
  go_wp2
  go_loopw [11] (fun j wr => ∃ i : Nat, i ≤ s.cls.length ∧ j = .int .i64 (i : Int) ∧ Hid (NoteP A w g i (alkL (s.cls.take i) 0 (fun _ => [])) wr)) (fun j _ => s.cls.length - (intOf j).toNat)
  case atStart => exact ⟨0, Nat.zero_le _, rfl, HG⟩
  case round =>
    obtain ⟨i, hi', rfl, HG1⟩ := hrel
    clear HG
    obtain ⟨A1, hA1, hN1, hs1, hs2⟩ := HG1.out
    have k0 := (hN1.cell (o := 0) hkl hkA).trans hk0
    have k5 := (hN1.cell (o := 5) hkl hkA).trans hk5
    have hkA1 : A1 k = false := by
      cases e : A1 k with
      | false => rfl
      | true =>
        rcases hs2 k e with h | h
        · rw [hkA] at h; simp at h
        · omega
    have hws : w.heap.size ≤ wr.heap.size := hN1.size
    by_cases hlt : i < s.cls.length
    · have hii : (i : Int) < s.cls.length := by omega
      have hRr := HR.out.off (fun b hb hr => hN1.keep b hb (HRS.out b hr))
      have hci := List.getElem?_eq_getElem hlt
      have hli := HL.out s.cls[i] (List.getElem_mem hlt)
      have HS : Hid (alkL (s.cls.take (i + 1)) 0 (fun _ => []) = if s.cls[i].gone then alkL (s.cls.take i) 0 (fun _ => []) else alkC (i : Int) (alkL (s.cls.take i) 0 (fun _ => [])) s.cls[i].lits) := by
        unfold Hid
        rw [List.take_succ_eq_append_getElem hlt, alkL_snoc, List.length_take, Nat.min_eq_left (by omega), Nat.zero_add]
      have hlx : mayB s.cls[i].lits 1048576 = true := may_lt (fun x hx => HI.out.wt.ok i s.cls[i] hci x hx) HI.out.sz.vars hli
      generalize alkL (s.cls.take i) 0 (fun _ => []) = f1 at *
      generalize s.cls[i] = c at *
      cases hg : c.gone with
      | true =>
        have G := hide (propClause_no hRr (i : Int) (.inr (.inr ⟨c, by omega, by simpa using hci, hg⟩)) (by omega))
        rw [hg] at HS
        have HG3 : Hid (NoteP A w g (i + 1) f1 wr) := ⟨A1, hA1.mono (by omega), hN1, hs1, hs2⟩
        clear hRr hci hA1 hN1 hs1 hs2
        go_wp2_with (go_at_call 41; refine (unhide G).mono ?_; rintro e w1 ⟨rfl, hw1⟩; subst w1)
        go_roundw
        case rel => exact ⟨i + 1, by omega, by go_num, by unfold Hid; rw [HS.out]; exact HG3.out⟩
        case measure => simp [intOf]; omega
      | false =>
        rw [hg] at HS
        have G : Hid (Calls Try.prog 41 #[.pointer (some ⟨B, 0, none⟩), .int .i64 (i : Int)] wr fun e w1 => ∃ a cap, e = .returned (.tuple #[.slice a c.lits.length cap, .bool true]) ∧ Calls Try.prog 33 #[.pointer (some ⟨k, 0, none⟩), .int .i64 (i : Int), .slice a c.lits.length cap] w1 fun e w' => e = .returned (.tuple #[]) ∧ Hid (NoteP A w g (i + 1) (alkC (i : Int) f1 c.lits) w')) := by
          refine (propClause_yes hRr i c hci hg (by omega) (by omega)).mono ?_
          rintro e w1 ⟨v, rfl, ho, hb⟩
          obtain ⟨a, cap, rfl, hrow, _⟩ := ho.row
          have hcap : a = none → cap = 0 := own_cap ho
          refine ⟨a, cap, rfl, ?_⟩
          have := noteAlike_x (A := A1) (w := w1) (k := k) (f := f1) ((hb.cell (p := ⟨k, 5, none⟩) (Nat.lt_of_lt_of_le hkl hws)).trans k5) hkA1 (by have := hb.size; omega) (hA1.same (fun b hbb => hb.block b (hA1.lt b hbb)) hb.size) i (by omega) a cap c.lits hrow hli hcap (by omega) hlx
          refine this.mono ?_
          rintro e w2 ⟨rfl, q1⟩
          exact ⟨rfl, note_trans hN1 hs1 hs2 hb q1⟩
        clear hRr hci hA1 hN1 hs1 hs2
        go_wp2_with (first
          | (go_at_call 41; refine (unhide G).mono ?_; rintro e w1 ⟨a, cap, rfl, G2⟩; replace G2 := hide G2)
          | (go_at_call 33; refine (unhide G2).mono ?_; rintro e w2 ⟨rfl, HG2⟩))
        go_roundw
        case rel => exact ⟨i + 1, by omega, by go_num, by unfold Hid; rw [HS.out]; exact HG2.out⟩
        case measure => simp [intOf]; omega
    · obtain rfl : i = s.cls.length := by omega
      have HG2 := HG1.out
      rw [List.take_length] at HG2
      replace HG2 := hide HG2
      clear HG1 hA1 hN1 hs1 hs2
      go_wp2
      go_end0
      exact ⟨rfl, HG2.out⟩
end Go.Proofs.Ytlmbgaconjcaiab

namespace Go.Proofs.Ytlmbgaconjcaiab
open Go.RowKit

/-- Nothing is true at level 0. -/
def Z0 (s : PS) : Prop := match s.lvs with
  | [] => s.trail = []
  | v :: _ => v.start = 0
theorem Z0.nil {s : PS} (h : Z0 s) (hl : s.lvs = []) : s.trail = [] := by unfold Z0 at h; rw [hl] at h; exact h
theorem Z0.cons {s : PS} (h : Z0 s) {v : Lv} {r : List Lv} (hl : s.lvs = v :: r) : v.start = 0 := by unfold Z0 at h; rw [hl] at h; exact h
theorem z0_nil {s : PS} (hl : s.lvs = []) (h : s.trail = []) : Z0 s := by unfold Z0; rw [hl]; exact h
theorem z0_cons {s : PS} {v : Lv} {r : List Lv} (hl : s.lvs = v :: r) (h : v.start = 0) : Z0 s := by unfold Z0; rw [hl]; exact h
theorem Z0.back {s : PS} (h : Z0 s) {n : Nat} {lv : Lv} (hl : s.lvs[n]? = some lv) : Z0 (s.back n lv) := by
  have e1 : (s.back n lv).lvs = s.lvs.take n := by rw [back_eq]
  have e2 : (s.back n lv).trail = s.trail.take lv.start := by rw [back_eq]
  cases e : s.lvs with
  | nil => rw [e] at hl; simp at hl
  | cons v r =>
    cases n with
    | zero =>
      rw [e] at hl
      simp at hl
      subst hl
      exact z0_nil (by rw [e1]; rfl) (by rw [e2, h.cons e]; rfl)
    | succ n => exact z0_cons (v := v) (r := r.take n) (by rw [e1, e]; rfl) (h.cons e)
theorem decide_ne (s : PS) (l : Int) : (s.decide l).lvs ≠ [] := by
  show (s.lvs ++ [_]) ≠ []
  simp
/-- Nothing is true at level 0, and there is another one. -/
def Zf (s : PS) : Prop := Z0 s ∧ s.lvs ≠ []
theorem Zf.frm {s t : PS} (h : Zf s) (hF : Frm s t) : Z0 t ∧ t.lvs ≠ [] := by
  obtain ⟨h1, h2⟩ := h
  have hlv := hF.lv
  cases e : s.lvs with
  | nil => exact absurd e h2
  | cons v r =>
    rw [e] at hlv
    cases e' : t.lvs with
    | nil => rw [e'] at hlv; simp at hlv
    | cons v' r' =>
      rw [e'] at hlv
      simp only [List.map_cons, List.cons.injEq] at hlv
      have : v'.start = v.start := congrArg Prod.fst hlv.1
      exact ⟨z0_cons e' (this.trans (h1.cons e)), by simp⟩
/-- Decisions alone. -/
structure ZL (s t : PS) : Prop where
  same : t.lvs = [] → t.trail = s.trail ∧ s.lvs = []
  z : Z0 s → t.lvs ≠ [] → Z0 t
theorem ZL.refl (s : PS) : ZL s s := ⟨fun h => ⟨rfl, h⟩, fun h _ => h⟩
theorem ZL.decide {s t : PS} (h : ZL s t) (l : Int) : ZL s (t.decide l) := by
  refine ⟨fun e => absurd e (decide_ne t l), fun hz _ => ?_⟩
  cases e : t.lvs with
  | nil =>
    obtain ⟨h1, h2⟩ := h.same e
    refine z0_cons (v := ⟨t.trail.length, t.head, []⟩) (r := []) (by show t.lvs ++ [_] = _; rw [e]; rfl) ?_
    rw [h1, hz.nil h2]; rfl
  | cons v r => exact z0_cons (v := v) (r := r ++ [⟨t.trail.length, t.head, []⟩]) (by show t.lvs ++ [_] = _; rw [e]; rfl) ((h.z hz (by rw [e]; simp)).cons e)
theorem ZL.fin {s t : PS} (h : ZL s t) (hz : Z0 s) {c : List Int} (hs : s.lvs ≠ [] ∨ c ≠ []) (hc : c ≠ [] → t.trail ≠ []) : Zf t := by
  have hne : t.lvs ≠ [] := by
    intro e
    obtain ⟨h1, h2⟩ := h.same e
    rcases hs with hs | hs
    · exact hs h2
    · exact hc hs (by rw [h1]; exact hz.nil h2)
  exact ⟨h.z hz hne, hne⟩

section
variable {ρ ρ' : Nat → Rl} {w w' : World} {k B : Nat} {s t : PS} {x1 x2 x3 x4 : Int} {sp : Nat} {m1 m2 : Value}
def BreaksZ (ρ : Nat → Rl) (w : World) (k B : Nat) (s : PS) (x1 x2 x3 x4 : Int) (m1 m2 : Value) (c : List Int) (b : Bool) (w' : World) : Prop :=
  ∃ ρ' t ds, KP ρ' w' k B t x1 x2 x3 x4 m1 m2 ∧ Ev ρ w ρ' w' ∧ Grw s t ds ∧ (∀ d ∈ ds, -d ∈ c) ∧ Told t c b ∧ (Z0 s → (s.lvs ≠ [] ∨ c ≠ []) → Z0 t ∧ t.lvs ≠ [])
def SettleZ (ρ : Nat → Rl) (w : World) (k B : Nat) (s : PS) (x1 x2 x3 : Int) (sp : Nat) (m1 m2 : Value) (w' : World) : Prop :=
  ∃ ρ' t ds, KP ρ' w' k B t x1 x2 x3 sp m1 m2 ∧ Ev ρ w ρ' w' ∧ Grw s t ds ∧ (sp = 0 → t = s ∧ ds = []) ∧ (sp ≠ 0 → (s.lvs = [] → ds = [(sp : Int)]) ∧ (s.lvs ≠ [] → ds = []) ∧ t.lvs ≠ []) ∧ (Z0 s → sp ≠ 0 → Z0 t)
def UnitsZ (ρ : Nat → Rl) (w : World) (k B : Nat) (s : PS) (x1 x2 x3 : Int) (sp : Nat) (m1 m2 : Value) (c : List Int) (b : Bool) (w' : World) : Prop :=
  ∃ ρ' u ds0, KP ρ' w' k B u x1 x2 x3 sp m1 m2 ∧ Ev ρ w ρ' w' ∧ Grw s u ds0 ∧ (sp = 0 → ds0 = []) ∧ (sp ≠ 0 → (s.lvs = [] → ds0 = [(sp : Int)]) ∧ (s.lvs ≠ [] → ds0 = []) ∧ u.lvs ≠ []) ∧ (Z0 s → (sp ≠ 0 ∨ s.lvs ≠ [] ∨ c ≠ []) → Z0 u) ∧ ∃ t ds, Inv t ∧ Grw s t (ds0 ++ ds) ∧ (∀ d ∈ ds, -d ∈ c) ∧ Told t c b

set_option maxHeartbeats 4000000 in
set_option maxRecDepth 100000 in
theorem breaks_z (h : KP ρ w k B s x1 x2 x3 x4 m1 m2) (a : Option Addr) (cap : Nat) (c : List Int) {NN : Nat} (hr : RowO ρ NN w a c) (hl : c.length ≤ 10000) (hc : ∀ x ∈ c, Lt s.vars x) :
    Calls Try.prog 39 #[.pointer (some ⟨k, 0, none⟩), .slice a c.length cap] w fun e w' => ∃ b, e = .returned (.bool b) ∧ BreaksZ ρ w k B s x1 x2 x3 x4 m1 m2 c b w' := by
  have HH := hide h
  have HR := hide hr
  have HC := hide hc
  have hVs := h.inv.sz.vars
  clear h hr hc
  go_enter Try.func39, Try.ntmps39
  go_wp2_with fail
  go_loopw [9] (fun j9 wr => ∃ (i : Nat) (ρ1 : Nat → Rl) (t : PS) (ds : List Int), j9 = .int .i64 i ∧ i ≤ c.length ∧ Hid (KP ρ1 wr k B t x1 x2 x3 x4 m1 m2) ∧ Hid (Ev ρ w ρ1 wr) ∧ Hid (Grw s t ds) ∧ Hid (∀ d ∈ ds, -d ∈ c) ∧ Hid (∀ l ∈ c.take i, -l ∈ t.trail) ∧ Hid (ZL s t)) (fun j9 _ => c.length - (intOf j9).toNat)
  case atStart => exact ⟨0, ρ, s, [], rfl, Nat.zero_le _, HH, Ev.refl _ _, Grw.refl _, by simp [Hid], by simp [Hid], ZL.refl s⟩
  case round =>
    clear HH
    obtain ⟨i, ρ1, t, ds, rfl, hi, HK, HE, HG, HD, HT, HZ⟩ := hrel
    have p0 := cell_of_block HK.out.blk (i := 0) rfl
    by_cases hlt : i < c.length
    · have hii : (i : Int) < c.length := by omega
      obtain ⟨bb, off, rfl, hbb, hcell⟩ := (HR.out.ev HE.out).row i hlt
      have hx := HC.out c[i] (List.getElem_mem hlt)
      rw [← HG.out.vars] at hx
      have VL : Hid (Calls Try.prog 60 #[.pointer (some ⟨B, 0, none⟩), .int .i64 c[i]] wr fun e w' => e = .returned (.int .i64 (t.val c[i])) ∧ ∃ n, w' = wr.drewN n) := by
        obtain ⟨H, hR⟩ := HK.out.rep
        have q := propValue_any hR HK.out.inv.shp c[i]
        have e : t.valT c[i] = t.val c[i] := by unfold PS.valT; rw [if_pos (ltB_true.2 hx)]
        rw [e] at q; exact q
      have HTS : Hid (∀ (u : PS), (∃ m, u.trail = t.trail ++ m) → -c[i] ∈ u.trail → ∀ l ∈ c.take (i + 1), -l ∈ u.trail) := by
        intro u ⟨m, hm⟩ hu l hl'
        rw [List.take_succ_eq_append_getElem hlt, List.mem_append] at hl'
        rcases hl' with hl' | hl'
        · rw [hm]; exact List.mem_append_left _ (HT.out l hl')
        · simp at hl'; subst hl'; exact hu
      have hmem := List.getElem_mem hlt
      have hwr : IntKind.i64.wrap (-c[i]) = -c[i] := by unfold Lt at hx; have := HK.out.inv.sz.vars; exact wrap_neg (by omega) (by omega)
      have hv := HK.out.inv.tr.vl c[i] hx
      by_cases h1 : c[i] ∈ t.trail
      · have hv1 : t.val c[i] = 1 := by rw [hv]; exact tval_one.2 h1
        rw [hv1] at VL
        have HFIN : Hid (∀ n, BreaksZ ρ w k B s x1 x2 x3 x4 m1 m2 c true (wr.drewN n)) := fun n => ⟨ρ1, t, ds, HK.out.below (bquiet (Below.refl _ _) n), HE.out.trans (Ev.drewN _ _ n), HG.out, HD.out, .inl ⟨rfl, .inl ⟨c[i], hmem, h1⟩⟩, fun hz hs => HZ.out.fin hz hs (fun _ => List.ne_nil_of_mem h1)⟩
        clear hv hv1 hx h1 hmem HTS hwr
        generalize c[i] = x at *
        go_wp2_with (go_at_call 60; refine (unhide VL).mono ?_; rintro e w1 ⟨rfl, n1, rfl⟩)
        go_ret
        exact ⟨true, rfl, HFIN.out n1⟩
      · by_cases h2 : -c[i] ∈ t.trail
        · have hv1 : t.val c[i] = -1 := by rw [hv]; unfold tval; rw [if_neg h1, if_pos h2]
          rw [hv1] at VL
          have HT2 := hide (HTS.out t ⟨[], by simp⟩ h2)
          clear hv hv1 hx h1 h2 hmem HTS hwr
          generalize c[i] = x at *
          go_wp2_with (go_at_call 60; refine (unhide VL).mono ?_; rintro e w1 ⟨rfl, n1, rfl⟩)
          go_roundw
          case rel => exact ⟨i + 1, ρ1, t, ds, by go_num, by omega, HK.out.below (bquiet (Below.refl _ _) n1), HE.out.trans (Ev.drewN _ _ n1), HG, HD, HT2, HZ⟩
          case measure => simp [intOf]; omega
        · have hv0 : t.val c[i] = 0 := by rw [hv]; exact tval_zero.2 ⟨h1, h2⟩
          rw [hv0] at VL
          have hx2 := hx.neg
          have h1' : - -c[i] ∉ t.trail := by rw [Int.neg_neg]; exact h1
          have hvn : t.val (-c[i]) = 0 := by rw [HK.out.inv.tr.vl _ hx2]; exact tval_zero.2 ⟨h2, h1'⟩
          have hhd : t.head ≤ 1048576 := by have q := HK.out.inv.tr.hd; have q2 := trail_len HK.out.inv.tr; have q3 := HK.out.inv.sz.vars; omega
          have DC : Hid (∀ n, Calls Try.prog 57 #[.pointer (some ⟨B, 0, none⟩), .int .i64 (-c[i])] (wr.drewN n) fun e w' => e = .returned (.int .i64 0) ∧ ∃ ρ2, Hid (KP ρ2 w' k B (t.decide (-c[i])) x1 x2 x3 x4 m1 m2) ∧ Hid (Ev ρ w ρ2 w')) := fun n => by
            obtain ⟨H, hR⟩ := HK.out.rep
            refine (decide_yes (hR.drewN n) HK.out.inv.shp (HK.out.inv.small (fun c hc => by have := HK.out.lits c hc; omega)) (-c[i]) hx2 hvn hhd).mono ?_
            rintro e w' ⟨rfl, ρ2, H2, hR2, hE2⟩
            exact ⟨rfl, ρ2, (HK.out.below (bquiet (Below.refl _ _) n)).ev hR2 (decide_inv HK.out.inv hx2 h2 h1') (HK.out.cnt.decide _) HK.out.lits hE2, (HE.out.trans (Ev.drewN _ _ n)).trans hE2⟩
          have HG2 := hide (HG.out.decide HK.out.inv (-c[i]))
          have HZ2 := hide (HZ.out.decide (-c[i]))
          have HD2 : Hid (∀ d ∈ ds ++ [-c[i]], -d ∈ c) := by
            intro d hd
            rcases List.mem_append.1 hd with hd | hd
            · exact HD.out d hd
            · simp at hd; subst hd; rw [Int.neg_neg]; exact hmem
          have HT2 : Hid (∀ l ∈ c.take (i + 1), -l ∈ (t.decide (-c[i])).trail) := HTS.out _ ⟨[-c[i]], rfl⟩ (by show -c[i] ∈ t.trail ++ [-c[i]]; simp)
          have q0 : ∀ n, (wr.drewN n).cell? ⟨k, 0, none⟩ = some (.pointer (some ⟨B, 0, none⟩)) := fun n => p0
          clear hv hv0 hx hx2 h1 h2 h1' hvn hmem HTS hhd
          generalize c[i] = x at *
          go_wp2_with (first | (go_at_call 60; refine (unhide VL).mono ?_; rintro e w1 ⟨rfl, n1, rfl⟩) | (go_at_call 57; refine (DC.out n1).mono ?_; rintro e w2 ⟨rfl, ρ2, HK2, HE2⟩))
          go_roundw
          case rel => exact ⟨i + 1, ρ2, _, _, by go_num, by omega, HK2, HE2, HG2, HD2, HT2, HZ2⟩
          case measure => simp [intOf]; omega
    · obtain rfl : i = c.length := by omega
      have RN : Hid (Calls Try.prog 58 #[.pointer (some ⟨B, 0, none⟩)] wr fun e w' => ∃ n, e = .returned (.int .i64 n) ∧ BreaksZ ρ w k B s x1 x2 x3 x4 m1 m2 c (decide (0 ≤ n)) w') := by
        obtain ⟨H, hR⟩ := HK.out.rep
        refine (run_any hR HK.out.inv (fun c hc => by have := HK.out.lits c hc; omega)).mono ?_
        rintro e w' ⟨n, rfl, ρ2, H2, t2, hR2, hI2, hE2, hF2, hn2⟩
        refine ⟨n, rfl, ρ2, t2, ds, HK.out.ev hR2 hI2 (HK.out.cnt.frm hF2) (Frm.litsK hF2.cl HK.out.lits) hE2, HE.out.trans hE2, HG.out.frm HK.out.inv hF2, HD.out, ?_, fun hz hs => (HZ.out.fin hz hs (fun hne => ?_)).frm hF2⟩
        rotate_left
        · obtain ⟨x, hx⟩ := List.exists_mem_of_ne_nil c hne
          exact List.ne_nil_of_mem (HT.out x (by rw [List.take_length]; exact hx))
        rcases hn2 with ⟨e1, e2, e3⟩ | hb
        · right
          refine ⟨by subst e1; rfl, e2, e3, fun l hl' => ?_⟩
          obtain ⟨m, hm⟩ := hF2.tr
          rw [hm]
          exact List.mem_append_left _ (HT.out l (by rw [List.take_length]; exact hl'))
        · left
          refine ⟨?_, .inr ⟨n, hb⟩⟩
          obtain ⟨j, _, rfl, _⟩ := hb
          exact decide_eq_true (by omega)
      clear HT HD HG HE HK HZ
      go_wp2_with (go_at_call 58; refine (unhide RN).mono ?_; rintro e w1 ⟨n1, rfl, hP⟩)
      go_ret
      exact ⟨_, rfl, hP⟩

set_option maxHeartbeats 4000000 in
set_option maxRecDepth 100000 in
theorem settle_z (h : KP ρ w k B s x1 x2 x3 sp m1 m2) (hsp : sp ≤ s.vars) (h0 : sp ≠ 0 → s.lvs = [] → s.trail = []) :
    Calls Try.prog 37 #[.pointer (some ⟨k, 0, none⟩)] w fun e w' => e = .returned (.tuple #[]) ∧ SettleZ ρ w k B s x1 x2 x3 sp m1 m2 w' := by
  have HK := hide h
  have p0 := cell_of_block h.blk (i := 0) rfl
  have p4 := cell_of_block h.blk (i := 4) rfl
  have hVs := h.inv.sz.vars
  have hlv := lvs_len h.inv.tr
  have htl := trail_len h.inv.tr
  have hln : s.lvs.length ≤ 1048576 := by omega
  have RUN : Hid (∀ (ρ1 : Nat → Rl) (t : PS) (x : World), KP ρ1 x k B t x1 x2 x3 sp m1 m2 → Calls Try.prog 58 #[.pointer (some ⟨B, 0, none⟩)] x fun e w' => ∃ n ρ2 u, e = .returned (.int .i64 n) ∧ KP ρ2 w' k B u x1 x2 x3 sp m1 m2 ∧ Ev ρ1 x ρ2 w' ∧ Frm t u) := fun ρ1 t x hK => by
    obtain ⟨H, hR⟩ := hK.rep
    refine (run_any hR hK.inv (fun c hc => by have := hK.lits c hc; omega)).mono ?_
    rintro e w' ⟨n, rfl, ρ2, H2, u, hR2, hI2, hE2, hF2, _⟩
    exact ⟨n, ρ2, u, rfl, hK.ev hR2 hI2 (hK.cnt.frm hF2) (Frm.litsK hF2.cl hK.lits) hE2, hE2, hF2⟩
  have LV : Hid (Calls Try.prog 38 #[.pointer (some ⟨B, 0, none⟩)] w fun e w' => e = .returned (.int .i64 s.lvs.length) ∧ w' = w) := by
    obtain ⟨H, hR⟩ := h.rep
    exact propLevels_any hR
  have hdl : s.dec.length = s.lvs.length := by simp [PS.dec]
  by_cases hz : sp = 0
  · subst hz
    have HFIN : Hid (SettleZ ρ w k B s x1 x2 x3 0 m1 m2 w) := ⟨ρ, s, [], h, Ev.refl _ _, Grw.refl _, fun _ => ⟨rfl, rfl⟩, fun h => absurd rfl h, fun _ h => absurd rfl h⟩
    clear h h0 hdl
    go_enter Try.func37, Try.ntmps37
    go_wp2
    refine bodyPost_ret (results_none rfl _ _ _) rfl ?_
    exact ⟨rfl, HFIN.out⟩
  · have hz' : ((sp : Int) == 0) = false := by simp; omega
    by_cases hl0 : s.lvs = []
    · have hlen0 : s.lvs.length = 0 := by rw [hl0]; rfl
      rw [hlen0] at LV
      have htr := h0 hz hl0
      have hx : Lt s.vars (sp : Int) := by unfold Lt; omega
      have hv : s.val (sp : Int) = 0 := by rw [h.inv.tr.vl _ hx, htr]; rfl
      have hhd : s.head ≤ 1048576 := by have q := h.inv.tr.hd; omega
      have DC : Hid (∀ x, Below w.heap.size w x → Calls Try.prog 57 #[.pointer (some ⟨B, 0, none⟩), .int .i64 sp] x fun e w' => e = .returned (.int .i64 0) ∧ ∃ ρ2, Hid (KP ρ2 w' k B (s.decide sp) x1 x2 x3 sp m1 m2) ∧ Hid (Ev ρ w ρ2 w')) := fun x hxb => by
        obtain ⟨H, hR⟩ := h.rep
        refine (decide_yes (hR.below hxb) h.inv.shp (h.inv.small (fun c hc => by have := h.lits c hc; omega)) sp hx hv hhd).mono ?_
        rintro e w' ⟨rfl, ρ2, H2, hR2, hE2⟩
        exact ⟨rfl, ρ2, (h.below hxb).ev hR2 (decide_inv h.inv hx (by rw [htr]; simp) (by rw [htr]; simp)) (h.cnt.decide _) h.lits hE2, (Ev.below hxb).trans hE2⟩
      have HG := hide ((Grw.refl s).decide h.inv (sp : Int))
      have HDI := hide (decide_inv h.inv hx (by rw [htr]; simp) (by rw [htr]; simp))
      have HL0 := hide hl0
      have HZ0 : Hid (Z0 (s.decide sp)) := ((ZL.refl s).decide sp).z (z0_nil hl0 htr) (decide_ne s sp)
      clear h h0 hlen0 htr hx hv hhd hdl hl0
      go_enter Try.func37, Try.ntmps37
      go_wp2_with (go_at_call 38; refine (unhide LV).mono ?_; rintro e w0 ⟨rfl, hw0⟩; subst w0)
      go_region_held3 (fun q => q.cell? ⟨k, 0, none⟩ = some (.pointer (some ⟨B, 0, none⟩)) ∧ q.cell? ⟨k, 4, none⟩ = some (.int .i64 sp)) (first | exact ⟨by assumption, by assumption⟩ | go_keep) (first
        | (go_at_call 57; refine (DC.out _ (by first | exact Below.refl _ _ | exact (Below.refl _ _).drew)).mono ?_; rintro e w1 ⟨rfl, ρ2, HK2, HE2⟩; have s0 := cell_of_block HK2.out.blk (i := 0) rfl; have s4 := cell_of_block HK2.out.blk (i := 4) rfl))
      all_goals
        have R2 := hide (RUN.out ρ2 (s.decide sp) w1 HK2.out)
        clear p0 p4 DC LV RUN
        go_wp2_with (go_at_call 58; refine (unhide R2).mono ?_; rintro e w3 ⟨n3, ρ3, u3, rfl, hK3, hE3, hF3⟩)
        go_end0
        exact ⟨rfl, ρ3, u3, _, hK3, HE2.out.trans hE3, HG.out.frm HDI.out hF3, fun e => absurd e hz, fun _ => ⟨fun _ => by simp, fun e => absurd HL0.out e, lvs_ne (HG.out.frm HDI.out hF3) (by simp)⟩, fun _ _ => (Zf.frm ⟨HZ0.out, decide_ne s sp⟩ hF3).1⟩
    · have hne : (s.lvs.length : Int) ≠ 0 := by
        have : s.lvs.length ≠ 0 := fun e => hl0 (List.length_eq_zero_iff.1 e)
        omega
      have hne' : ((s.lvs.length : Int) == 0) = false := by simpa using hne
      have R2 := hide (RUN.out ρ s w h)
      have HDN : Hid (s.dec ++ [] ≠ []) := by
        intro e
        have e2 : s.dec = [] := by simpa using e
        rw [e2] at hdl; exact hl0 (List.length_eq_zero_iff.1 hdl.symm)
      have HI := hide h.inv
      clear h h0 hdl RUN
      generalize hNN : s.lvs.length = NN at *
      clear hNN
      go_enter Try.func37, Try.ntmps37
      go_wp2_with (first | (go_at_call 38; refine (unhide LV).mono ?_; rintro e w0 ⟨rfl, hw0⟩; subst w0) | (go_at_call 58; refine (unhide R2).mono ?_; rintro e w3 ⟨n3, ρ3, u3, rfl, hK3, hE3, hF3⟩))
      go_end0
      exact ⟨rfl, ρ3, u3, [], hK3, hE3, (Grw.refl s).frm HI.out hF3, fun e => absurd e hz, fun _ => ⟨fun e => absurd e hl0, fun _ => rfl, lvs_ne ((Grw.refl s).frm HI.out hF3) HDN.out⟩, fun hzz _ => (Zf.frm ⟨hzz, hl0⟩ hF3).1⟩

set_option maxHeartbeats 4000000 in
set_option maxRecDepth 100000 in
theorem byUnits_z (h : KP ρ w k B s x1 x2 x3 sp m1 m2) (hsp : sp ≤ s.vars) (h0 : sp ≠ 0 → s.lvs = [] → s.trail = []) (a : Option Addr) (cap : Nat) (c : List Int) {NN : Nat} (hr : RowO ρ NN w a c) (hl : c.length ≤ 10000) (hc : ∀ x ∈ c, Lt s.vars x) :
    Calls Try.prog 25 #[.pointer (some ⟨k, 0, none⟩), .slice a c.length cap] w fun e w' => ∃ b, e = .returned (.bool b) ∧ UnitsZ ρ w k B s x1 x2 x3 sp m1 m2 c b w' := by
  have ST := hide (settle_z h hsp h0)
  have HBR : Hid (∀ w1 ρ1 t1 ds0, KP ρ1 w1 k B t1 x1 x2 x3 sp m1 m2 → Ev ρ w ρ1 w1 → Grw s t1 ds0 → ∀ x, Below w1.heap.size w1 x → Calls Try.prog 39 #[.pointer (some ⟨k, 0, none⟩), .slice a c.length cap] x fun e w' => ∃ b, e = .returned (.bool b) ∧ BreaksZ ρ1 x k B t1 x1 x2 x3 sp m1 m2 c b w') := fun w1 ρ1 t1 ds0 hK hE hG x hx => breaks_z (hK.below hx) a cap c ((hr.ev hE).ev (Ev.below hx)) hl (by rw [hG.vars]; exact hc)
  have p0 := cell_of_block h.blk (i := 0) rfl
  clear h hr hc
  go_enter_defers Try.func25, Try.ntmps25
  go_wp2_with fail
  refine Calls.mono (unhide ST) ?_
  rintro e w1 ⟨rfl, ρ1, t1, ds0, hK1, hE1, hG1, hz1, hn1, hy1⟩
  have q0 := cell_of_block hK1.blk (i := 0) rfl
  have LV : Hid (∀ x, Below w1.heap.size w1 x → Calls Try.prog 38 #[.pointer (some ⟨B, 0, none⟩)] x fun e w' => e = .returned (.int .i64 t1.lvs.length) ∧ w' = x) := fun x hx => by
    obtain ⟨H, hR⟩ := hK1.rep
    exact propLevels_any (hR.below hx)
  have BR := hide (HBR.out w1 ρ1 t1 ds0 hK1 hE1 hG1)
  have HK1 := hide hK1
  have HE1 := hide hE1
  have HG1 := hide hG1
  have HZ1 := hide hz1
  have HN1 := hide hn1
  have HY1 : Hid (Z0 s → (sp ≠ 0 ∨ s.lvs ≠ [] ∨ c ≠ []) → Z0 t1 ∧ (t1.lvs ≠ [] ∨ c ≠ [])) := by
    intro q1 q2
    by_cases e : sp = 0
    · have e2 := (hz1 e).1
      rw [e2]
      refine ⟨q1, ?_⟩
      rcases q2 with q2 | q2
      · exact absurd e q2
      · exact q2
    · exact ⟨hy1 q1 e, .inl (hn1 e).2.2⟩
  have hln : t1.lvs.length ≤ 1048576 := by have q := lvs_len hK1.inv.tr; have q2 := trail_len hK1.inv.tr; have q3 := hK1.inv.sz.vars; omega
  clear ST HBR p0 hK1 hE1 hG1 hz1 hn1 hy1
  simp only
  generalize hNN : t1.lvs.length = NN at *
  have HNN := hide hNN
  clear hNN
  go_wp2_with fail
  go_region_held3 (fun q => q.cell? ⟨k, 0, none⟩ = some (.pointer (some ⟨B, 0, none⟩))) (first | assumption | go_keep) (first
    | (go_at_call 38; refine (LV.out _ (by first | exact Below.refl _ _ | exact (Below.refl _ _).drew)).mono ?_; rintro e w0 ⟨rfl, hw0⟩; subst w0))
  all_goals
    clear q0 LV
    go_wp2_with fail
    refine Calls.mono (BR.out _ (by first | exact Below.refl _ _ | exact (Below.refl _ _).drew)) ?_
    rintro e w2 ⟨b, rfl, ρ2, t2, ds, hK2, hE2, hG2, hd2, hT2, hy2⟩
    have HE12 : Hid (Ev ρ w ρ2 w2) := HE1.out.trans ((Ev.drew _ _).trans hE2)
    have HK2 := hide hK2
    have HG2 := hide hG2
    have HD2 := hide hd2
    have HT2 := hide hT2
    have HY2 : Hid (Z0 s → (sp ≠ 0 ∨ s.lvs ≠ [] ∨ c ≠ []) → Z0 t2) := fun q1 q2 => (hy2 (HY1.out q1 q2).1 (HY1.out q1 q2).2).1
    have BKN : Hid (t2.lvs.length ≤ NN → ∀ u : FrameMode, CallsD Try.prog 36 #[.pointer (some ⟨B, 0, none⟩), .int .i64 NN] u w2 fun e u' w' => u' = u ∧ (e = .returned (.tuple #[]) ∧ UnitsZ ρ w k B s x1 x2 x3 sp m1 m2 c b w')) := by
      intro hle u
      obtain ⟨H, hR⟩ := HK2.out.rep
      refine (back_no_d hR (NN : Int) (by simpa using hle)).mono ?_
      rintro e u' w' ⟨rfl, rfl, rfl⟩
      have hds := HG2.out.same (by rw [HNN.out]; exact hle)
      subst hds
      have hGu := HG1.out.trans HG2.out
      rw [List.append_nil] at hGu
      exact ⟨rfl, rfl, ρ2, t2, ds0, HK2.out, HE12.out, hGu, fun e => (HZ1.out e).2, fun e => ⟨(HN1.out e).1, (HN1.out e).2.1, lvs_ne HG2.out (by
        rw [List.append_nil]
        intro e2
        have q : t1.dec.length = t1.lvs.length := by simp [PS.dec]
        rw [e2] at q
        exact (HN1.out e).2.2 (List.length_eq_zero_iff.1 q.symm))⟩, HY2.out, t2, [], HK2.out.inv, HG1.out.trans HG2.out, HD2.out, HT2.out⟩
    have BKY : Hid (¬ t2.lvs.length ≤ NN → ∀ u : FrameMode, CallsD Try.prog 36 #[.pointer (some ⟨B, 0, none⟩), .int .i64 NN] u w2 fun e u' w' => u' = u ∧ (e = .returned (.tuple #[]) ∧ UnitsZ ρ w k B s x1 x2 x3 sp m1 m2 c b w')) := by
      intro hle u
      obtain ⟨H, hR⟩ := HK2.out.rep
      have hlt : NN < t2.lvs.length := by omega
      have hlv := List.getElem?_eq_getElem hlt
      refine (back_yes_d hR HK2.out.inv (NN : Int) NN (by simp) _ hlv).mono ?_
      rintro e u' w' ⟨rfl, rfl, ρ3, H3, hR3, hE3⟩
      have hN := HNN.out
      have hK3 : KP ρ3 w' k B (t2.back NN t2.lvs[NN]) x1 x2 x3 sp m1 m2 := HK2.out.ev hR3 (back_inv HK2.out.inv hlv) (HK2.out.cnt.back _ _) (by rw [back_eq]; exact HK2.out.lits) hE3
      have hGb2 : Grw t1 (t2.back NN t2.lvs[NN]) [] := by
        refine ⟨by rw [back_eq]; exact HG2.out.vars, by rw [back_eq]; exact HG2.out.cl, ?_⟩
        have hl : t1.dec.length = NN := by rw [← hN]; simp [PS.dec]
        rw [back_dec HK2.out.inv hlv, HG2.out.dec, ← hl, List.take_left, List.append_nil]
      have hGu := HG1.out.trans hGb2
      rw [List.append_nil] at hGu
      exact ⟨rfl, rfl, ρ3, _, ds0, hK3, HE12.out.trans hE3, hGu, fun e => (HZ1.out e).2, fun e => ⟨(HN1.out e).1, (HN1.out e).2.1, lvs_ne hGb2 (by
        rw [List.append_nil]
        intro e2
        have q : t1.dec.length = t1.lvs.length := by simp [PS.dec]
        rw [e2] at q
        exact (HN1.out e).2.2 (List.length_eq_zero_iff.1 q.symm))⟩, fun q1 q2 => (HY2.out q1 q2).back hlv, t2, ds, HK2.out.inv, HG1.out.trans HG2.out, HD2.out, HT2.out⟩
    clear BR hK2 hE2 hG2 hd2 hT2 hy2
    go_wp2_with fail
    refine leaves_cons (f := 36) (args := #[.pointer (some ⟨B, 0, none⟩), .int .i64 NN]) (by simp) (by simp [go_sem]) ?_
    by_cases hle : t2.lvs.length ≤ NN
    · refine (BKN.out hle .returning).mono ?_
      rintro e u' w3 ⟨rfl, rfl, hP⟩
      exact ⟨_, results_tmp rfl _ _ _, b, rfl, hP⟩
    · refine (BKY.out hle .returning).mono ?_
      rintro e u' w3 ⟨rfl, rfl, hP⟩
      exact ⟨_, results_tmp rfl _ _ _, b, rfl, hP⟩
end
end Go.Proofs.Ytlmbgaconjcaiab

namespace Go.Proofs.Ytlmbgaconjcaiab
open Go.RowKit

theorem alkL_key : ∀ (a b : List Cl) (j : Nat) (f : List UInt8 → List Int), a.map key = b.map key → alkL a j f = alkL b j f
  | [], [], _, _, _ => rfl
  | [], d :: r, _, _, h => by simp at h
  | c :: r, [], _, _, h => by simp at h
  | c :: r, d :: q, j, f, h => by
    simp only [List.map_cons, List.cons.injEq] at h
    have h1 : c.lits = d.lits := congrArg Prod.fst h.1
    have h2 : c.gone = d.gone := congrArg Prod.snd h.1
    show alkL r (j + 1) _ = alkL q (j + 1) _
    rw [h1, h2, alkL_key r q (j + 1) _ h.2]
theorem idxL_first (T : List UInt8) (d' : Cl) (hd : d'.gone = true) : ∀ (l : List Cl) (j : Nat) (z : Int) (q : List Int), idxL l j T = z :: q → ∀ i : Nat, z = ((j + i : Nat) : Int) → idxL (l.set i d') j T = q
  | [], j, z, q, h, i, hi => by simp [idxL] at h
  | c :: r, j, z, q, h, i, hi => by
    unfold idxL at h
    split at h
    · rename_i hy
      have hz : (j : Int) = z := (List.cons.inj h).1
      obtain rfl : i = 0 := by omega
      rw [List.set_cons_zero]
      unfold idxL
      rw [if_neg (by rw [hd]; simp)]
      exact (List.cons.inj h).2
    · rename_i hn
      have hge := idxL_ge T r (j + 1) z (by rw [h]; simp)
      obtain ⟨i, rfl⟩ : ∃ m, i = m + 1 := ⟨i - 1, by omega⟩
      have ih := idxL_first T d' hd r (j + 1) z q h i (by rw [hi]; congr 1; omega)
      rw [List.set_cons_succ]
      unfold idxL
      rw [if_neg hn, ih]
theorem idxL_other (T : List UInt8) (d' : Cl) (hd : d'.gone = true) : ∀ (l : List Cl) (j i : Nat) (d : Cl), l[i]? = some d → tx d.lits ≠ T → idxL (l.set i d') j T = idxL l j T
  | [], j, i, d, h, hne => by simp at h
  | c :: r, j, 0, d, h, hne => by
    simp at h
    subst h
    rw [List.set_cons_zero]
    unfold idxL
    rw [if_neg (by rw [hd]; simp), if_neg (fun h => hne h.2)]
  | c :: r, j, i + 1, d, h, hne => by
    rw [List.set_cons_succ]
    unfold idxL
    rw [idxL_other T d' hd r (j + 1) i d (by simpa using h) hne]
theorem idxL_at (T : List UInt8) : ∀ (l : List Cl) (j : Nat) (z : Int), z ∈ idxL l j T → ∃ (i : Nat) (d : Cl), l[i]? = some d ∧ d.gone = false ∧ tx d.lits = T ∧ z = ((j + i : Nat) : Int)
  | [], j, z, h => by simp [idxL] at h
  | c :: r, j, z, h => by
    unfold idxL at h
    have tail : z ∈ idxL r (j + 1) T → ∃ (i : Nat) (d : Cl), (c :: r)[i]? = some d ∧ d.gone = false ∧ tx d.lits = T ∧ z = ((j + i : Nat) : Int) := fun h => by
      obtain ⟨i, d, h1, h2, h3, h4⟩ := idxL_at T r (j + 1) z h
      exact ⟨i + 1, d, by simpa using h1, h2, h3, by rw [h4]; congr 1; omega⟩
    split at h
    · rename_i hy
      rcases List.mem_cons.1 h with h | h
      · exact ⟨0, c, rfl, hy.1, hy.2, by simpa using h⟩
      · exact tail h
    · exact tail h
/-- The map of clauses that are alike, where the first of a text is taken out. -/
theorem alkL_drop {l : List Cl} {i : Nat} {d d' : Cl} {q : List Int} (hi : l[i]? = some d) (hd : d'.gone = true) (hz : alkL l 0 (fun _ => []) (tx d.lits) = (i : Int) :: q) :
    alkL (l.set i d') 0 (fun _ => []) = updS (alkL l 0 (fun _ => [])) (tx d.lits) q := by
  funext T
  have e1 := alkL_idx T (l.set i d') 0 (fun _ => [])
  have e2 := alkL_idx (tx d.lits) l 0 (fun _ => [])
  rw [hz] at e2
  rw [e1]
  by_cases e : T = tx d.lits
  · subst e
    rw [updS_same]
    have := idxL_first (tx d.lits) d' hd l 0 (i : Int) q (by simpa using e2.symm) i (by simp)
    simpa using this
  · rw [updS_other _ _ e, alkL_idx T l 0 (fun _ => [])]
    rw [idxL_other T d' hd l 0 i d hi (Ne.symm e)]

/-- Numbers of clauses by literals: none that is there lacks. -/
structure HavOk (ks : List (List Int × Bool)) (f : Int → List Int) : Prop where
  all : ∀ (i : Nat) (L : List Int) (l : Int), ks[i]? = some (L, false) → l ∈ L → (i : Int) ∈ f l
  only : ∀ (l z : Int), z ∈ f l → ∃ (i : Nat) (L : List Int) (g : Bool), z = (i : Int) ∧ ks[i]? = some (L, g) ∧ (g = false → l ∈ L)
section
variable {ks : List (List Int × Bool)} {f : Int → List Int}
theorem HavOk.drop (h : HavOk ks f) {i : Nat} (hi : i < ks.length) : HavOk (ks.set i ([], true)) f := by
  refine ⟨fun j L l hj hl => ?_, fun l z hz => ?_⟩
  · rw [List.getElem?_set] at hj
    split at hj
    · simp at hj
    · exact h.all j L l hj hl
  · obtain ⟨j, L, g, rfl, h1, h2⟩ := h.only l z hz
    by_cases e : i = j
    · subst e
      exact ⟨i, [], true, rfl, by rw [List.getElem?_set_self hi], fun e => by cases e⟩
    · exact ⟨j, L, g, rfl, by rw [List.getElem?_set_ne e]; exact h1, h2⟩
theorem HavOk.add (h : HavOk ks f) (c : List Int) : HavOk (ks ++ [(c, false)]) (noteC (ks.length : Int) f c) := by
  refine ⟨fun j L l hj hl => ?_, fun l z hz => ?_⟩
  · rw [noteC_mem]
    rcases Nat.lt_trichotomy j ks.length with e | e | e
    · rw [List.getElem?_append_left e] at hj
      exact .inl (h.all j L l hj hl)
    · subst e
      simp at hj
      rw [hj]; exact .inr ⟨hl, rfl⟩
    · rw [List.getElem?_append_right (by omega), List.getElem?_eq_none (by simp; omega)] at hj
      cases hj
  · rw [noteC_mem] at hz
    rcases hz with hz | ⟨h1, rfl⟩
    · obtain ⟨j, L, g, rfl, h1, h2⟩ := h.only l z hz
      have hj := (List.getElem?_eq_some_iff.1 h1).1
      exact ⟨j, L, g, rfl, by rw [List.getElem?_append_left hj]; exact h1, h2⟩
    · exact ⟨ks.length, c, false, rfl, by simp, fun _ => h1⟩
theorem HavOk.new (s : PS) : HavOk (s.cls.map key) (noteL s.cls 0 (fun _ => [])) := by
  refine ⟨fun j L l hj hl => ?_, fun l z hz => ?_⟩
  · rw [noteL_mem]
    rw [List.getElem?_map] at hj
    obtain ⟨c, h1, h2⟩ := Option.map_eq_some_iff.1 hj
    have e1 : c.lits = L := congrArg Prod.fst h2
    have e2 : c.gone = false := congrArg Prod.snd h2
    exact .inr ⟨j, c, h1, e2, by rw [e1]; exact hl, by simp⟩
  · rw [noteL_mem] at hz
    rcases hz with hz | ⟨i, c, h1, h2, h3, h4⟩
    · simp at hz
    · exact ⟨i, c.lits, c.gone, by simpa using h4, by rw [List.getElem?_map, h1]; rfl, fun _ => h3⟩
theorem HavOk.keep {s : PS} (h : HavOk (s.cls.map key) f) (l : Int) : HavOk (s.cls.map key) (updI f l ((f l).filter (thB s))) := by
  refine ⟨fun j L x hj hx => ?_, fun x z hz => ?_⟩
  · have h1 := h.all j L x hj hx
    by_cases e : x = l
    · subst e
      rw [updI_same, List.mem_filter]
      refine ⟨h1, ?_⟩
      rw [List.getElem?_map] at hj
      obtain ⟨c, q1, q2⟩ := Option.map_eq_some_iff.1 hj
      rw [thB_at q1, show c.gone = false from congrArg Prod.snd q2]; rfl
    · rw [updI_other _ _ e]; exact h1
  · by_cases e : x = l
    · subst e
      rw [updI_same, List.mem_filter] at hz
      exact h.only x z hz.1
    · rw [updI_other _ _ e] at hz; exact h.only x z hz
theorem HavOk.num {s : PS} (h : HavOk (s.cls.map key) f) (l : Int) : Num s (f l) := by
  intro z hz
  obtain ⟨i, L, g, rfl, h1, _⟩ := h.only l z hz
  rw [List.getElem?_map] at h1
  obtain ⟨c, q1, _⟩ := Option.map_eq_some_iff.1 h1
  exact ⟨i, c, rfl, q1⟩
theorem HavOk.mem {s : PS} (h : HavOk (s.cls.map key) f) (l z : Int) : z ∈ (f l).filter (thB s) ↔ z ∈ noteL s.cls 0 (fun _ => []) l := by
  rw [noteL_mem, List.mem_filter]
  constructor
  · rintro ⟨h1, h2⟩
    obtain ⟨i, L, g, rfl, q1, q2⟩ := h.only l z h1
    rw [List.getElem?_map] at q1
    obtain ⟨c, r1, r2⟩ := Option.map_eq_some_iff.1 q1
    rw [thB_at r1] at h2
    have hg : c.gone = false := by simpa using h2
    have e1 : c.lits = L := congrArg Prod.fst r2
    have e2 : c.gone = g := congrArg Prod.snd r2
    exact .inr ⟨i, c, r1, hg, by rw [e1]; exact q2 (e2.symm.trans hg), by simp⟩
  · rintro (h1 | ⟨i, c, h1, h2, h3, h4⟩)
    · simp at h1
    · rw [h4, Nat.zero_add]
      exact ⟨h.all i c.lits l (by rw [List.getElem?_map, h1, ← h2]; rfl) h3, by rw [thB_at h1, h2]; rfl⟩
end

/-- What is none of a map's is looked at for a while. -/
def rA (A : Nat → Bool) (S : Nat) : Nat → Rl := fun b => if (decide (b < S) && !A b) = true then tmpR else oth
theorem rA_new {A : Nat → Bool} {S b : Nat} (h : S ≤ b) : rA A S b = oth := by
  have : ¬ b < S := by omega
  simp [rA, this]
theorem rA_in {A : Nat → Bool} {S b : Nat} (h : A b = true) : rA A S b = oth := by simp [rA, h]
theorem rA_out {A : Nat → Bool} {S b : Nat} (h : b < S) (h2 : A b = false) : rA A S b ≠ oth := by
  have : rA A S b = tmpR := by simp [rA, h, h2]
  rw [this]; exact tmp_ne
theorem rA_oth {A : Nat → Bool} {S b : Nat} (h : b < S) (h2 : rA A S b = oth) : A b = true := by
  cases e : A b with
  | true => rfl
  | false => exact absurd h2 (rA_out h e)
theorem rA_agree {A : Nat → Bool} {S S' b : Nat} (h : b < S) (hs : S ≤ S') : rA A S' b = rA A S b := by
  have : b < S' := by omega
  simp [rA, h, this]

/-- A keeper's maps. -/
structure MP (A1 A2 : Nat → Bool) (ρ : Nat → Rl) (w : World) (k : Nat) (s : PS) (N : Nat) (m1 m2 : Value) : Prop where
  alk : (m1 = .map none ∧ ∀ b, A1 b = false) ∨ ∃ g, m1 = .map (some g) ∧ Alk A1 w g N (alkL s.cls 0 (fun _ => []))
  hav : (m2 = .map none ∧ ∀ b, A2 b = false) ∨ ∃ g base f, m2 = .map (some g) ∧ Gro Try.prog 3 3 (rA A2 w.heap.size) w g base N (litF f) ∧ base ≤ w.heap.size ∧ k < base ∧ k ≠ g ∧ HavOk (s.cls.map key) f
  d1 : ∀ b, A1 b = true → ρ b = oth ∧ b ≠ k ∧ A2 b = false ∧ b < w.heap.size
  d2 : ∀ b, A2 b = true → ρ b = oth ∧ b ≠ k ∧ b < w.heap.size

/-- What becomes of a world with a keeper: nothing turns but what is the keeper's. -/
structure EvM (k : Nat) (ρ : Nat → Rl) (A1 A2 : Nat → Bool) (w : World) (ρ' : Nat → Rl) (A1' A2' : Nat → Bool) (w' : World) : Prop where
  os : w'.os = w.os
  tape : w'.tape = w.tape
  output : w'.output = w.output
  size : w.heap.size ≤ w'.heap.size
  agree : ∀ b, b < w.heap.size → ρ' b = ρ b
  a1 : ∀ b, b < w.heap.size → A1 b = false → A1' b = false
  a2 : ∀ b, b < w.heap.size → A2 b = false → A2' b = false
  keep : ∀ b, b < w.heap.size → b ≠ k → ρ b = oth → A1 b = false → A2 b = false → w'.heap[b]? = w.heap[b]?
section
variable {k : Nat} {ρ ρ' ρ'' : Nat → Rl} {A1 A2 A1' A2' A1'' A2'' : Nat → Bool} {w w' w'' : World} {s t : PS} {N : Nat} {m1 m2 : Value}
theorem EvM.refl (k : Nat) (ρ : Nat → Rl) (A1 A2 : Nat → Bool) (w : World) : EvM k ρ A1 A2 w ρ A1 A2 w := ⟨rfl, rfl, rfl, Nat.le_refl _, fun _ _ => rfl, fun _ _ h => h, fun _ _ h => h, fun _ _ _ _ _ _ => rfl⟩
theorem EvM.trans (h : EvM k ρ A1 A2 w ρ' A1' A2' w') (q : EvM k ρ' A1' A2' w' ρ'' A1'' A2'' w'') : EvM k ρ A1 A2 w ρ'' A1'' A2'' w'' :=
  ⟨q.os.trans h.os, q.tape.trans h.tape, q.output.trans h.output, Nat.le_trans h.size q.size,
   fun b hb => (q.agree b (Nat.lt_of_lt_of_le hb h.size)).trans (h.agree b hb), fun b hb e => q.a1 b (Nat.lt_of_lt_of_le hb h.size) (h.a1 b hb e), fun b hb e => q.a2 b (Nat.lt_of_lt_of_le hb h.size) (h.a2 b hb e),
   fun b hb hk hr e1 e2 => (q.keep b (Nat.lt_of_lt_of_le hb h.size) hk ((h.agree b hb).trans hr) (h.a1 b hb e1) (h.a2 b hb e2)).trans (h.keep b hb hk hr e1 e2)⟩
theorem EvN.evM (h : EvN k ρ w ρ' w') : EvM k ρ A1 A2 w ρ' A1 A2 w' := ⟨h.os, h.tape, h.output, h.size, h.agree, fun _ _ e => e, fun _ _ e => e, fun b hb hk hr _ _ => h.keep b hb hk hr⟩
theorem Ev.evM (h : Ev ρ w ρ' w') : EvM k ρ A1 A2 w ρ' A1 A2 w' := (h.evN k).evM
/-- The keeper's own block and what is the propagator's may turn: the maps stay. -/
theorem MP.evN (h : MP A1 A2 ρ w k s N m1 m2) (hE : EvN k ρ w ρ' w') (hk : t.cls.map key = s.cls.map key) : MP A1 A2 ρ' w' k t N m1 m2 := by
  refine ⟨?_, ?_, fun b hb => ?_, fun b hb => ?_⟩
  · rcases h.alk with q | ⟨g, q1, q2⟩
    · exact .inl q
    · refine .inr ⟨g, q1, ?_⟩
      rw [alkL_key _ _ _ _ hk]
      exact q2.same (fun b hb => hE.keep b (h.d1 b hb).2.2.2 (h.d1 b hb).2.1 (h.d1 b hb).1) hE.size
  · rcases h.hav with q | ⟨g, base, f, q1, q2, q3, q4, q5, q6⟩
    · exact .inl q
    · refine .inr ⟨g, base, f, q1, ?_, Nat.le_trans q3 hE.size, q4, q5, by rw [hk]; exact q6⟩
      exact q2.ev (fun b hb => rA_agree hb hE.size) (fun b hb hr => by
        have := h.d2 b (rA_oth hb hr)
        exact hE.keep b hb this.2.1 this.1)
  · obtain ⟨h1, h2, h3, h4⟩ := h.d1 b hb
    exact ⟨(hE.agree b h4).trans h1, h2, h3, Nat.lt_of_lt_of_le h4 hE.size⟩
  · obtain ⟨h1, h2, h4⟩ := h.d2 b hb
    exact ⟨(hE.agree b h4).trans h1, h2, Nat.lt_of_lt_of_le h4 hE.size⟩
theorem MP.ev (h : MP A1 A2 ρ w k s N m1 m2) (hE : Ev ρ w ρ' w') (hk : t.cls.map key = s.cls.map key) : MP A1 A2 ρ' w' k t N m1 m2 := h.evN (hE.evN k) hk
theorem MP.mono {M : Nat} (h : MP A1 A2 ρ w k s N m1 m2) (hM : N ≤ M) : MP A1 A2 ρ w k s M m1 m2 := by
  refine ⟨?_, ?_, h.d1, h.d2⟩
  · rcases h.alk with q | ⟨g, q1, q2⟩
    · exact .inl q
    · exact .inr ⟨g, q1, q2.mono hM⟩
  · rcases h.hav with q | ⟨g, base, f, q1, q2, q3⟩
    · exact .inl q
    · exact .inr ⟨g, base, f, q1, q2.mono hM, q3⟩
end

/-- A keeper's map of literals, beside whatever the other one is. -/
structure MH (A1 A2 : Nat → Bool) (ρ : Nat → Rl) (w : World) (k : Nat) (s : PS) (N : Nat) (m2 : Value) : Prop where
  hav : (m2 = .map none ∧ ∀ b, A2 b = false) ∨ ∃ g base f, m2 = .map (some g) ∧ Gro Try.prog 3 3 (rA A2 w.heap.size) w g base N (litF f) ∧ base ≤ w.heap.size ∧ k < base ∧ k ≠ g ∧ HavOk (s.cls.map key) f
  d1 : ∀ b, A1 b = true → ρ b = oth ∧ b ≠ k ∧ A2 b = false ∧ b < w.heap.size
  d2 : ∀ b, A2 b = true → ρ b = oth ∧ b ≠ k ∧ b < w.heap.size
section
variable {k : Nat} {ρ ρ' : Nat → Rl} {A A' A1 A2 : Nat → Bool} {w w' : World} {s t : PS} {N M g n : Nat} {m1 m2 : Value}
theorem MP.mh (h : MP A1 A2 ρ w k s N m1 m2) : MH A1 A2 ρ w k s N m2 := ⟨h.hav, h.d1, h.d2⟩
theorem MH.mp (h : MH A1 A2 ρ w k s N m2) (ha : Alk A1 w g N (alkL s.cls 0 (fun _ => []))) : MP A1 A2 ρ w k s N (.map (some g)) m2 := ⟨.inr ⟨g, rfl, ha⟩, h.hav, h.d1, h.d2⟩
theorem havT (h : (m2 = .map none ∧ ∀ b, A2 b = false) ∨ ∃ g base f, m2 = .map (some g) ∧ Gro Try.prog 3 3 (rA A2 w.heap.size) w g base N (litF f) ∧ base ≤ w.heap.size ∧ k < base ∧ k ≠ g ∧ HavOk (s.cls.map key) f)
    (hk : ∀ b, b < w.heap.size → A2 b = true → w'.heap[b]? = w.heap[b]?) (hs : w.heap.size ≤ w'.heap.size) (hq : t.cls.map key = s.cls.map key) (hM : N ≤ M) :
    (m2 = .map none ∧ ∀ b, A2 b = false) ∨ ∃ g base f, m2 = .map (some g) ∧ Gro Try.prog 3 3 (rA A2 w'.heap.size) w' g base M (litF f) ∧ base ≤ w'.heap.size ∧ k < base ∧ k ≠ g ∧ HavOk (t.cls.map key) f := by
  rcases h with q | ⟨g, base, f, q1, q2, q3, q4, q5, q6⟩
  · exact .inl q
  · exact .inr ⟨g, base, f, q1, (q2.ev (fun b hb => rA_agree hb hs) (fun b hb hr => hk b hb (rA_oth hb hr))).mono hM, Nat.le_trans q3 hs, q4, q5, by rw [hq]; exact q6⟩
/-- The map of texts has turned, and what is new is its. -/
theorem MH.note (h : MH A A2 ρ w k s N m2) (hfr : ∀ b, w.heap.size ≤ b → ρ b = oth) (hkl : k < w.heap.size) (hN : NA A w w') (hA' : ∀ b, A' b = true → A b = true ∨ w.heap.size ≤ b) (hl : ∀ b, A' b = true → b < w'.heap.size) (hq : t.cls.map key = s.cls.map key) (hM : N ≤ M) : MH A' A2 ρ w' k t M m2 := by
  have off : ∀ b, A2 b = true → A b = false := fun b hb => by
    cases e : A b with
    | false => rfl
    | true => have := (h.d1 b e).2.2.1; rw [hb] at this; cases this
  refine ⟨havT h.hav (fun b hb h2 => hN.keep b hb (off b h2)) hN.size hq hM, fun b hb => ?_, fun b hb => ?_⟩
  · rcases hA' b hb with e | e
    · obtain ⟨h1, h2, h3, h4⟩ := h.d1 b e
      exact ⟨h1, h2, h3, hl b hb⟩
    · refine ⟨hfr b e, by omega, ?_, hl b hb⟩
      cases e2 : A2 b with
      | false => rfl
      | true => have := (h.d2 b e2).2.2; omega
  · obtain ⟨h1, h2, h4⟩ := h.d2 b hb
    exact ⟨h1, h2, Nat.lt_of_lt_of_le h4 hN.size⟩
theorem NA.evM (hN : NA A w w') (hA' : ∀ b, A' b = true → A b = true ∨ w.heap.size ≤ b) : EvM k ρ A A2 w ρ A' A2 w' :=
  ⟨hN.os, hN.tape, hN.output, hN.size, fun _ _ => rfl, fun b hb e => by
    cases e2 : A' b with
    | false => rfl
    | true =>
      rcases hA' b e2 with q | q
      · rw [e] at q; cases q
      · omega, fun _ _ e => e, fun b hb _ _ e _ => hN.keep b hb e⟩
end
end Go.Proofs.Ytlmbgaconjcaiab
