/- A slice of bytes that a call makes, of a string or by append: none of its cells is frozen; what is put behind it. -/
import Derived.Test.YtgklollpajhmlaaDoorWalkH
import Derived.Lib.AppendStr
import Derived.Lib.ConvBytes
import Derived.Laws.AppendOwn
set_option linter.unusedVariables false
set_option linter.unusedSimpArgs false
namespace Go.Proofs.YtgklollpajhmlaaDoor
open Go.RowKit

theorem Tryd.info5 : (Tryd.prog.info? 5).map (fun i => (i.zero, i.size, i.bytes)) = some (some (.int .u8 0), 1, 1) := by kernel_rfl

/-- Of the first n cells none is frozen. -/
def Free (fz : Nat × Nat) (n : Nat) : Prop := ∀ k, k < n → ¬ (fz.1 ≤ k ∧ k < fz.2)

theorem Free.cell {w : World} {g : Nat} {cur : Array Value} {t : TypeId} {fz : Nat × Nat} {n : Nat} (h : Free fz n) (hg : w.heap[g]? = some (.cells cur t fz)) {k : Nat} (hk : k < n) : w.frozen? ⟨g, k, none⟩ = false := by
  have := h k hk
  obtain ⟨lo, hi⟩ := fz
  simp only at this
  simp only [World.frozen?, hg]
  by_cases h1 : lo ≤ k
  · have h2 : ¬ k < hi := fun e => this ⟨h1, e⟩
    simp [h1, h2]
  · simp [h1]

/-- Cells are stored one behind the other, where none is frozen. -/
theorem stores_free (P : Program) (g o : Nat) (t : TypeId) (fz : Nat × Nat) (vs : List Value) : ∀ (i : Nat) (cur : Array Value) (w : World), w.heap[g]? = some (.cells cur t fz) → Free fz cur.size → o + i + vs.length ≤ cur.size → (∀ v ∈ vs, v.oneCell' = true) →
    (storeCells ⟨g, o, none⟩ vs i).run P w = .ok () (w.setRow g (cur.toList.take (o + i) ++ vs ++ cur.toList.drop (o + i + vs.length)).toArray) := by
  induction vs with
  | nil =>
    intro i cur w hg _ _ _
    have e : (cur.toList.take (o + i) ++ [] ++ cur.toList.drop (o + i + ([] : List Value).length)).toArray = cur := by simp
    rw [e, setRow_self w g cur t fz hg]
    rfl
  | cons v vs ih =>
    intro i cur w hg hf hl h1
    simp only [List.length_cons] at hl
    have hlt : o + i < cur.size := by omega
    have ha : (⟨g, o, none⟩ : Addr).add i = ⟨g, o + i, none⟩ := Addr.add_lit _ _ _
    have hc : w.cell? ⟨g, o + i, none⟩ = some cur[o + i] := by simp [World.cell?, hg, hlt]
    have hz := hf.cell hg hlt
    have hst : (store ((⟨g, o, none⟩ : Addr).add i) v).run P w = .ok () (w.setRow g (cur.setIfInBounds (o + i) v)) := by
      rw [ha, run_store P w _ v _ (h1 v (by simp)), hc]
      simp [hz, setCell_eq_setRow w g (o + i) cur t fz v hg]
    have hr := ih (i + 1) (cur.setIfInBounds (o + i) v) (w.setRow g (cur.setIfInBounds (o + i) v)) (setRow_heap w g cur _ t _ hg) (by simpa using hf) (by simp; omega) (fun x hx => h1 x (by simp [hx]))
    simp only [storeCells, Sem.run_bind, hst, Result.andThen_ok, hr, setRow_setRow]
    have e := list_seg_step cur.toList (o + i) v vs (by simp; omega)
    congr 3
    simpa [Array.toList_setIfInBounds, Nat.add_assoc] using e

/-- Bytes, as cells. -/
def byteL (xs : List UInt8) : List Value := xs.map fun c => Value.int .u8 (c.toNat : Int)
theorem byteL_len (xs : List UInt8) : (byteL xs).length = xs.length := by simp [byteL]
theorem byteL_append (xs ys : List UInt8) : byteL (xs ++ ys) = byteL xs ++ byteL ys := by simp [byteL]
theorem byteL_one (xs : List UInt8) : ∀ u ∈ byteL xs, u.oneCell' = true := by
  intro u hu
  simp only [byteL, List.mem_map] at hu
  obtain ⟨c, _, rfl⟩ := hu
  rfl
theorem byteL_str (xs : List UInt8) : Lib.strCells (str xs) = byteL xs := by
  simp [Lib.strCells, str, byteL]

/-- A slice of bytes of the call's own, not nil; of its block no cell is frozen. -/
def Br (base : Nat) (w : World) (v : Value) (xs : List UInt8) : Prop :=
  ∃ (g cap : Nat) (cur : Array Value) (fz : Nat × Nat), v = .slice (some ⟨g, 0, none⟩) xs.length cap ∧ base ≤ g ∧ w.heap[g]? = some (.cells cur 5 fz) ∧ Free fz cur.size ∧ xs.length ≤ cap ∧ cap ≤ maxLen ∧ cur.size = cap ∧ cur.toList.take xs.length = byteL xs

theorem Br.shape {base : Nat} {w : World} {v : Value} {xs : List UInt8} (h : Br base w v xs) : ∃ g cap, v = .slice (some ⟨g, 0, none⟩) xs.length cap ∧ base ≤ g ∧ g < w.heap.size ∧ xs.length ≤ cap := by
  obtain ⟨g, cap, cur, fz, e, hb, hg, _, hl, _⟩ := h
  exact ⟨g, cap, e, hb, lt_of_block hg, hl⟩

theorem Br.lt {base : Nat} {w : World} {v : Value} {xs : List UInt8} (h : Br base w v xs) : ∀ k, v.ownBlock = some k → base ≤ k ∧ k < w.heap.size := by
  obtain ⟨g, cap, cur, fz, rfl, hb, hg, _⟩ := h
  intro k hk
  simp [Value.ownBlock] at hk
  subst hk
  exact ⟨hb, lt_of_block hg⟩

theorem Br.kept {base : Nat} {w w' : World} {v : Value} {xs : List UInt8} (h : Br base w v xs) (hb : Below w.heap.size w w') : Br base w' v xs := by
  obtain ⟨g, cap, cur, fz, rfl, hb', hg, r⟩ := h
  exact ⟨g, cap, cur, fz, rfl, hb', by rw [hb.block g (lt_of_block hg)]; exact hg, r⟩

theorem Br.mono {base base' : Nat} {w : World} {v : Value} {xs : List UInt8} (h : Br base w v xs) (hb : base' ≤ base) : Br base' w v xs := by
  obtain ⟨g, cap, cur, fz, rfl, hb', r⟩ := h
  exact ⟨g, cap, cur, fz, rfl, Nat.le_trans hb hb', r⟩

theorem Br.cells {base : Nat} {w : World} {g n cap : Nat} {xs : List UInt8} (h : Br base w (.slice (some ⟨g, 0, none⟩) n cap) xs) : ∀ j u, (byteL xs)[j]? = some u → w.cell? ((⟨g, 0, none⟩ : Addr).add j) = some u := by
  obtain ⟨g', cap', cur, fz, e, _, hg, _, _, _, _, ht⟩ := h
  simp at e
  obtain ⟨rfl, rfl, rfl⟩ := e
  intro j u hu
  rw [← ht, List.getElem?_take] at hu
  rw [Addr.add_lit, Nat.zero_add]
  split at hu
  · simp [World.cell?, hg]
    simpa using hu
  · cases hu

theorem Br.txt {base : Nat} {w : World} {v : Value} {xs : List UInt8} (h : Br base w v xs) : ∃ g cap, v = .slice (some ⟨g, 0, none⟩) xs.length cap ∧ Txt w.heap.size w (some ⟨g, 0, none⟩) xs ∧ xs.length ≤ cap := by
  obtain ⟨g, cap, rfl, hb, hlt, hl⟩ := h.shape
  refine ⟨g, cap, rfl, fun i hi => ⟨g, 0, rfl, hlt, ?_⟩, hl⟩
  have := h.cells i (.int .u8 (xs[i].toNat : Int)) (by simp [byteL, hi])
  rw [Addr.add_lit] at this
  exact this

/-- The bytes of a string. -/
theorem br_bytes (w : World) (xs : List UInt8) (h : xs.length ≤ maxLen) : Br w.heap.size (Lib.bytesWorld w 5 (str xs)) (.slice (some ⟨w.heap.size, 0, none⟩) (str xs).size (grownCap w (str xs).size 0 5)) xs := by
  have hg := Lib.bytesWorld_at_new w 5 (str xs)
  have hs := str_size xs
  have hge := grownCap_ge w (str xs).size 0 5
  have hle := grownCap_le_maxLen w (str xs).size 0 5 (by rw [hs]; exact h)
  have hsz : (Lib.bytesCells w 5 (str xs)).size = grownCap w (str xs).size 0 5 := by
    simp only [Lib.bytesCells, Array.size_append, Array.size_map, Array.size_replicate]
    have : (str xs).data.size = (str xs).size := rfl
    omega
  refine ⟨w.heap.size, _, _, _, by rw [hs], Nat.le_refl _, hg, fun k hk => by simp only; omega, by rw [← hs]; exact hge, hle, hsz, ?_⟩
  simp only [Lib.bytesCells, Array.toList_append, Array.toList_map]
  rw [List.take_append_of_le_length (by simp [str])]
  rw [List.take_of_length_le (by simp [str])]
  simp [byteL, str]

/-- Bytes are put behind it. -/
theorem br_append {P : Program} (w : World) (base : Nat) (i : TypeInfo) (hi : P.info? 5 = some i) (hz : i.zero = some (.int .u8 0)) (h1 : i.size = 1) (hb1 : i.bytes = 1) (ty : TypeId) (args : Array TypeId) (x : Value)
    (v : Value) (xs ys : List UInt8) (hbr : Br base w v xs) (hlim : xs.length + ys.length ≤ 140737488355328) (hbase : base ≤ w.heap.size)
    (hroom : ∀ (g cap : Nat) (cur : Array Value) (fz : Nat × Nat), w.heap[g]? = some (.cells cur 5 fz) → Free fz cur.size → cur.size = cap → xs.length + ys.length ≤ cap →
      (Builtin.append_ args ty #[.slice (some ⟨g, 0, none⟩) xs.length cap, x]).run P w = .ok (.slice (some ⟨g, 0, none⟩) (xs.length + ys.length) cap) (w.setRow g (cur.toList.take xs.length ++ byteL ys ++ cur.toList.drop (xs.length + ys.length)).toArray))
    (hgrow : ∀ (g cap : Nat), (∀ j u, (byteL xs)[j]? = some u → w.cell? ((⟨g, 0, none⟩ : Addr).add j) = some u) → cap < xs.length + ys.length →
      (Builtin.append_ args ty #[.slice (some ⟨g, 0, none⟩) xs.length cap, x]).run P w = .ok (.slice (some ⟨w.heap.size, 0, none⟩) (xs.length + ys.length) (grownCap w (xs.length + ys.length) cap 5))
        (w.drew.alloc (.cells ((byteL xs).toArray ++ (byteL ys).toArray ++ Builtin.zeroCells (Value.int .u8 0).cells (grownCap w (xs.length + ys.length) cap 5 - (xs.length + ys.length))) 5))) :
    ∃ v' w', (Builtin.append_ args ty #[v, x]).run P w = .ok v' w' ∧ Br base w' v' (xs ++ ys) ∧ w.grownBy w' v.ownBlock := by
  obtain ⟨g, cap, cur, fz, rfl, hb, hg, hf, hl, hm, hs, ht⟩ := hbr
  by_cases hr : xs.length + ys.length ≤ cap
  · refine ⟨_, _, hroom g cap cur fz hg hf hs hr, ⟨g, cap, _, fz, by simp, hb, setRow_heap w g cur _ 5 _ hg, ?_, by simpa using hr, hm, ?_, ?_⟩, ⟨rfl, rfl, rfl, by simp, fun k _ hk => setRow_other w g k _ (fun e => hk (by simp [Value.ownBlock, e]))⟩⟩
    · have e : (cur.toList.take xs.length ++ byteL ys ++ cur.toList.drop (xs.length + ys.length)).toArray.size = cur.size := by
        simp [byteL_len]; omega
      rw [e]; exact hf
    · simp [byteL_len]; omega
    · rw [ht, byteL_append, ← byteL_append]
      have e : (xs ++ ys).length = (byteL (xs ++ ys)).length := (byteL_len _).symm
      rw [e]
      exact List.take_left
  · have hcells : ∀ j u, (byteL xs)[j]? = some u → w.cell? ((⟨g, 0, none⟩ : Addr).add j) = some u := Br.cells (base := base) ⟨g, cap, cur, fz, rfl, hb, hg, hf, hl, hm, hs, ht⟩
    have hge := grownCap_ge w (xs.length + ys.length) cap 5
    have hle := grownCap_le_maxLen w (xs.length + ys.length) cap 5 (by unfold maxLen; omega)
    refine ⟨_, _, hgrow g cap hcells (by omega), ⟨w.heap.size, _, _, (0, 0), by simp, hbase, heap_alloc_new w.drew _, fun k _ => by simp, by simpa using hge, hle, ?_, ?_⟩, ⟨rfl, rfl, rfl, by simp, fun k hk _ => (below_alloc w.drew _).block k hk⟩⟩
    · have hz1 : (Value.int IntKind.u8 0).cells.size = 1 := rfl
      simp only [Array.size_append, List.size_toArray, size_zeroCells, hz1, byteL_len]
      omega
    · simp only [Array.toList_append, List.append_assoc]
      rw [← List.append_assoc, ← byteL_append]
      have e : (xs ++ ys).length = (byteL (xs ++ ys)).length := (byteL_len _).symm
      rw [e]
      exact List.take_left

/-- Those of a slice. -/
theorem br_append_slice {P : Program} (w : World) (base : Nat) (t : TypeId) (ht : P.underlying t = some (.slice 5)) (i : TypeInfo) (hi : P.info? 5 = some i) (hz : i.zero = some (.int .u8 0)) (h1 : i.size = 1) (hb1 : i.bytes = 1) (ty : TypeId)
    (v : Value) (xs ys : List UInt8) (hbr : Br base w v xs) (hlim : xs.length + ys.length ≤ 140737488355328) (hbase : base ≤ w.heap.size) (a : Addr) (m c : Nat) (hm : m = ys.length) (hsrc : ∀ j u, (byteL ys)[j]? = some u → w.cell? (a.add j) = some u) :
    ∃ v' w', (Builtin.append_ #[t, t] ty #[v, .slice (some a) m c]).run P w = .ok v' w' ∧ Br base w' v' (xs ++ ys) ∧ w.grownBy w' v.ownBlock := by
  subst hm
  refine br_append w base i hi hz h1 hb1 ty #[t, t] (.slice (some a) ys.length c) v xs ys hbr hlim hbase ?_ ?_
  · intro g cap cur fz hg hf hs hr
    have hfi := run_firstCells_some (P := P) w i.size ys.length a ys.length c (byteL ys) (by rw [h1, byteL_len, Nat.mul_one]) hsrc
    have hst := stores_free P g (xs.length * i.size) 5 fz (byteL ys) 0 cur w hg hf (by rw [h1, byteL_len]; omega) (byteL_one ys)
    simp only [h1, Nat.mul_one, Nat.add_zero, byteL_len] at hst hfi
    simp [Builtin.append_, run_underlying ht, sizeOf, typeInfo, hi, h1, Builtin.lenOf, hr, hfi, Addr.add_lit, hst]
  · intro g cap hcells hgt
    exact run_append_grow (P := P) w t ty 5 i (.int .u8 0) ht hi hz ⟨g, 0, none⟩ xs.length cap (byteL xs) (by rw [h1, byteL_len, Nat.mul_one]) hcells a ys.length c (byteL ys) (by rw [h1, byteL_len, Nat.mul_one]) hsrc hgt (by omega) (by rw [hb1]; exact growslice_fits (by omega) (by omega))

/-- Those of a string. -/
theorem br_append_string {P : Program} (w : World) (base : Nat) (t u : TypeId) (ht : P.underlying t = some (.slice 5)) (hu : P.underlying u = some .string) (i : TypeInfo) (hi : P.info? 5 = some i) (hz : i.zero = some (.int .u8 0)) (h1 : i.size = 1) (hb1 : i.bytes = 1) (ty : TypeId)
    (v : Value) (xs ys : List UInt8) (hbr : Br base w v xs) (hlim : xs.length + ys.length ≤ 140737488355328) (hbase : base ≤ w.heap.size) :
    ∃ v' w', (Builtin.append_ #[t, u] ty #[v, .string (str ys)]).run P w = .ok v' w' ∧ Br base w' v' (xs ++ ys) ∧ w.grownBy w' v.ownBlock := by
  refine br_append w base i hi hz h1 hb1 ty #[t, u] (.string (str ys)) v xs ys hbr hlim hbase ?_ ?_
  · intro g cap cur fz hg hf hs hr
    have hfi := Lib.run_firstCells_string (P := P) w 1 (str ys)
    have hst := stores_free P g xs.length 5 fz (byteL ys) 0 cur w hg hf (by rw [byteL_len]; omega) (byteL_one ys)
    simp only [Nat.add_zero, byteL_len] at hst
    rw [byteL_str, str_size] at hfi
    simp [Builtin.append_, run_underlying ht, run_underlying hu, sizeOf, typeInfo, hi, h1, Builtin.lenOf, str_size, hr, hfi, Addr.add_lit, hst]
  · intro g cap hcells hgt
    have := Lib.run_append_grow_string (P := P) w t u ty 5 i (.int .u8 0) ht hu hi hz ⟨g, 0, none⟩ xs.length cap (byteL xs) (by rw [h1, byteL_len, Nat.mul_one]) hcells (str ys) (by rw [str_size]; exact hgt) (by rw [str_size]; omega) (by rw [hb1, str_size]; exact growslice_fits (by omega) (by omega))
    rw [byteL_str, str_size] at this
    exact this

theorem wpList_br_slice {P : Program} {w : World} {ops : Array Oper} {rest : List Oper} {o : Oper} {a : Act} {Q : Exit → Act → World → Prop} (hgd : o.guard = none) (s x : Operand) (t : TypeId)
    (ho : o.op = .call { callee := .builtin .append, args := #[s, x], argTypes := #[t, t] }) (base : Nat) (ht : P.underlying t = some (.slice 5)) (i : TypeInfo) (hi : P.info? 5 = some i) (hz : i.zero = some (.int .u8 0)) (h1 : i.size = 1) (hb1 : i.bytes = 1)
    (v : Value) (xs ys : List UInt8) (hs : a.eval s = v) (hbr : Br base w v xs) (hlim : xs.length + ys.length ≤ 140737488355328) (hbase : base ≤ w.heap.size) (ad : Addr) (m c : Nat) (hx : a.eval x = .slice (some ad) m c) (hm : m = ys.length) (hsrc : ∀ j u, (byteL ys)[j]? = some u → w.cell? (ad.add j) = some u)
    (h : ∀ v' w', Br base w' v' (xs ++ ys) → w.grownBy w' v.ownBlock → wpList P ops Q rest (a.put o.dst v') w') : wpList P ops Q (o :: rest) a w := by
  refine wpList_plain hgd fun K hK => ?_
  obtain ⟨v', w', hr, h2, h3⟩ := br_append_slice (P := P) w base t ht i hi hz h1 hb1 o.type v xs ys hbr hlim hbase ad m c hm hsrc
  unfold Oper.wp execOp
  simp only [ho, resolve, invoke, builtin, Sem.run_bind, Sem.run_pure, Result.andThen_ok, List.map_toArray, List.map_cons, List.map_nil, hs, hx, hr]
  exact hK _ _ (h v' w' h2 h3)

theorem wpList_br_string {P : Program} {w : World} {ops : Array Oper} {rest : List Oper} {o : Oper} {a : Act} {Q : Exit → Act → World → Prop} (hgd : o.guard = none) (s x : Operand) (t u : TypeId)
    (ho : o.op = .call { callee := .builtin .append, args := #[s, x], argTypes := #[t, u] }) (base : Nat) (ht : P.underlying t = some (.slice 5)) (hu : P.underlying u = some .string) (i : TypeInfo) (hi : P.info? 5 = some i) (hz : i.zero = some (.int .u8 0)) (h1 : i.size = 1) (hb1 : i.bytes = 1)
    (v : Value) (xs ys : List UInt8) (hs : a.eval s = v) (hbr : Br base w v xs) (hlim : xs.length + ys.length ≤ 140737488355328) (hbase : base ≤ w.heap.size) (hx : a.eval x = .string (str ys))
    (h : ∀ v' w', Br base w' v' (xs ++ ys) → w.grownBy w' v.ownBlock → wpList P ops Q rest (a.put o.dst v') w') : wpList P ops Q (o :: rest) a w := by
  refine wpList_plain hgd fun K hK => ?_
  obtain ⟨v', w', hr, h2, h3⟩ := br_append_string (P := P) w base t u ht hu i hi hz h1 hb1 o.type v xs ys hbr hlim hbase
  unfold Oper.wp execOp
  simp only [ho, resolve, invoke, builtin, Sem.run_bind, Sem.run_pure, Result.andThen_ok, List.map_toArray, List.map_cons, List.map_nil, hs, hx, hr]
  exact hK _ _ (h v' w' h2 h3)

end Go.Proofs.YtgklollpajhmlaaDoor
