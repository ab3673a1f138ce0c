/- Packing: what a round leaves. -/
import Derived.Test.YtbibbdkijgaoeaaWalkH
import Derived.Test.YtbibbdkijgaoeaaPlainS
set_option linter.unusedVariables false
set_option linter.unusedSimpArgs false
namespace Go.Proofs.Ytbibbdkijgaoeaa
open Go.RowKit Go.Maps

theorem Try.info42 : (Try.prog.info? 42).map (fun i => (i.zero, i.size, i.bytes)) = some (some (.agg #[.int .i64 0, .int .i64 0]), 2, 16) := by kernel_rfl

/-- 'copy' into a row that is known whole, at a step of a region: only that row turns. -/
theorem step_copy_mine {P : Program} {ops : Array Oper} {o : Oper} {a : Act} {w : World} {K : Act → World → Prop} {Q : Exit → Act → World → Prop} {E : Prop} (hgd : o.guard = none) (d s : Operand) (dT sT : TypeId)
    (ho : o.op = .call { callee := .builtin .copy, args := #[d, s], argTypes := #[dT, sT] }) (elem : TypeId) (hu : P.underlying dT = some (.slice elem)) (hsz : (P.info? elem).map (·.size) = some 1)
    (g off dLen dCap : Nat) (ad : Addr) (sLen sCap : Nat) (hd : a.eval d = .slice (some ⟨g, off, none⟩) dLen dCap) (hs : a.eval s = .slice (some ad) sLen sCap)
    (cur : Array Value) (t : TypeId) (hg : w.heap[g]? = some (.cells cur t (0, 0))) (cs : List Value) (hn : cs.length = Nat.min sLen dLen)
    (hsrc : ∀ j v, cs[j]? = some v → w.cell? (ad.add j) = some v) (hfit : off + cs.length ≤ cur.size) (h1 : ∀ v ∈ cs, v.oneCell' = true)
    (h : ∀ w', w'.heap[g]? = some (.cells (cur.toList.take off ++ (cs ++ cur.toList.drop (off + cs.length))).toArray t (0, 0)) → w.grownBy w' (some g) → K (a.put o.dst (goInt cs.length)) w') :
    if Region.wanted o (yielded ops a.tmps) = true then Oper.wp P o a w K Q else E := by
  have hw : Region.wanted o (yielded ops a.tmps) = true := by simp [Region.wanted, hgd]
  rw [if_pos hw]
  have hrun := run_copy_row (P := P) w dT sT o.type elem g off dLen dCap ad sLen sCap cur t cs hu hsz hg hn hsrc hfit h1
  unfold Oper.wp
  simp [execOp, ho, resolve, invoke, builtin, hd, hs, hrun, Result.andThen]
  exact h _ (by simpa using setRow_heap w g _ _ t _ hg) ⟨rfl, rfl, rfl, by simp [World.setRow], fun k hk hne => setRow_other w g k _ (fun e => hne (by rw [e]))⟩

def mvCells (ms : List (Int × Int)) : List Value := ms.flatMap fun m => [.int .i64 m.1, .int .i64 m.2]
theorem mvCells_snoc (ms : List (Int × Int)) (x y : Int) : mvCells (ms ++ [(x, y)]) = mvCells ms ++ [.int .i64 x, .int .i64 y] := by simp [mvCells]
theorem mvCells_len (ms : List (Int × Int)) : (mvCells ms).length = ms.length * 2 := by
  induction ms with
  | nil => rfl
  | cons m ms ih => simp only [mvCells, List.flatMap_cons, List.length_append, List.length_cons, List.length_nil] at *; omega

/-- An arena in the midst of being packed: A is behind it, R ahead. -/
structure Pk (base : Nat) (w wr : World) (B M g cap : Nat) (L A R : List Itm) (pv mv : Value) : Prop where
  hL : L = A ++ R
  head : wr.heap[B]? = some (.cells (headOf B M (.slice (some ⟨g, 0, none⟩) (words L) cap) L) 68 (0, 0))
  row : ∃ mid : List Int, mid.length + words (keepL A) = words A ∧ wr.ownsRow base 3 1 (.slice (some ⟨g, 0, none⟩) (words L) cap) (words L) ((rowOf (keepL A) ++ (mid ++ rowOf R)).map (Value.int .i64))
  pls : Pls wr M (keysOf A R)
  kp : Kp (Mine B M (.slice (some ⟨g, 0, none⟩) (words L) cap)) w wr
  ps : Own w.heap.size wr pv (plF 0 L)
  mv : wr.ownsRow w.heap.size 42 2 mv (mvs A).length (mvCells (mvs A))

theorem own_block {base : Nat} {w : World} {e : TypeId} {s : Nat} {v : Value} {n : Nat} {vs : List Value} (h : w.ownsRow base e s v n vs) {g : Nat} (hg : v.ownBlock = some g) : ∃ cur, w.heap[g]? = some (.cells cur e (0, 0)) := by
  rcases h.2 with ⟨rfl, _⟩ | ⟨g', cap, cur, rfl, _, hh, _⟩
  · simp [Value.ownBlock] at hg
  · simp [Value.ownBlock] at hg; subst hg; exact ⟨cur, hh⟩

theorem own_apart {base base' : Nat} {w : World} {u v : Value} {e e' : TypeId} {s s' n n' : Nat} {us vs : List Value} (h : w.ownsRow base e s u n us) (g : w.ownsRow base' e' s' v n' vs) (hne : e ≠ e') : u.ownBlock = Option.none ∨ u.ownBlock ≠ v.ownBlock := by
  cases hu : u.ownBlock with
  | none => exact .inl rfl
  | some k =>
    right
    intro e
    obtain ⟨c1, e1⟩ := own_block h hu
    obtain ⟨c2, e2⟩ := own_block g e.symm
    rw [e1] at e2
    simp at e2
    exact hne e2.2

/-- Behind the copy of a clause. -/
structure Pc (base : Nat) (w w1 : World) (B M g cap : Nat) (L A G R : List Itm) (it : Itm) (pv mv : Value) : Prop where
  head : w1.heap[B]? = some (.cells (headOf B M (.slice (some ⟨g, 0, none⟩) (words L) cap) L) 68 (0, 0))
  row : ∃ mid : List Int, mid.length + words (keepL (A ++ G ++ [it])) = words (A ++ G ++ [it]) ∧ w1.ownsRow base 3 1 (.slice (some ⟨g, 0, none⟩) (words L) cap) (words L) ((rowOf (keepL (A ++ G ++ [it])) ++ (mid ++ rowOf R)).map (Value.int .i64))
  kp : Kp (Mine B M (.slice (some ⟨g, 0, none⟩) (words L) cap)) w w1
  ps : Own w.heap.size w1 pv (plF 0 L)
  mv : w1.ownsRow w.heap.size 42 2 mv (mvs A).length (mvCells (mvs A))

section
variable {base : Nat} {w wr w1 w2 : World} {B M g cap : Nat} {L A G R : List Itm} {it : Itm} {pv mv : Value}

theorem Pk.apart (h : Pk base w wr B M g cap L A R pv mv) : B ≠ M ∧ g ≠ B ∧ g ≠ M := by
  obtain ⟨D, ⟨es, clock, hb, F⟩, h2⟩ := h.pls
  obtain ⟨mid, _, ho⟩ := h.row
  obtain ⟨cur, hg⟩ := own_block ho (g := g) rfl
  have hh := h.head
  refine ⟨?_, ?_, ?_⟩
  · rintro rfl; rw [hh] at hb; simp at hb
  · rintro rfl; rw [hh] at hg; simp at hg
  · rintro rfl; rw [hb] at hg; simp at hg

theorem Pk.lts (h : Pk base w wr B M g cap L A R pv mv) (hA : ∀ k, Mine B M (.slice (some ⟨g, 0, none⟩) (words L) cap) k → k < w.heap.size) : (∀ k, pv.ownBlock = some k → ¬ (k = B ∨ k = M ∨ k = g)) ∧ (∀ k, mv.ownBlock = some k → ¬ (k = B ∨ k = M ∨ k = g)) := by
  have h1 := hA B (.inl rfl)
  have h2 := hA M (.inr (.inl rfl))
  have h3 := hA g (.inr (.inr rfl))
  refine ⟨fun k hk => ?_, fun k hk => ?_⟩
  · have := (World.ownsRow.lt h.ps k hk).1; omega
  · have := (h.mv.lt k hk).1; omega

/-- The row's block, as a whole. -/
theorem Pk.block (h : Pk base w wr B M g cap L A R pv mv) : ∃ (cur : Array Value) (mid : List Int), wr.heap[g]? = some (.cells cur 3 (0, 0)) ∧ mid.length + words (keepL A) = words A ∧ words L ≤ cap ∧ cap ≤ maxLen ∧ base ≤ g ∧ cur.size = cap ∧ cur.toList.take (words L) = (rowOf (keepL A) ++ (mid ++ rowOf R)).map (Value.int .i64) := by
  obtain ⟨mid, hm, ho⟩ := h.row
  rcases ho.2 with ⟨e, _⟩ | ⟨g', cap', cur, e, hb, hg, hn, hx, hs, ht⟩
  · cases e
  · simp at e
    obtain ⟨rfl, rfl⟩ := e
    exact ⟨cur, mid, hg, hm, hn, hx, hb, by simpa using hs, by simpa using ht⟩

/-- The cells that a clause takes. -/
theorem pk_src {cur : Array Value} {mid : List Int} {n : Nat} (hg : wr.heap[g]? = some (.cells cur 3 (0, 0))) (hm : mid.length + words (keepL A) = words A) (ht : cur.toList.take n = (rowOf (keepL A) ++ (mid ++ rowOf (G ++ it :: R))).map (Value.int .i64)) {j : Nat} {x : Int} (hx : (enc it)[j]? = some x) :
    wr.cell? ⟨g, words (A ++ G) + j, none⟩ = some (.int .i64 x) := by
  obtain ⟨P, hP, e⟩ := pack_src (G := G) (R := R) (it := it) hm
  rw [e] at ht
  have h1 : (cur.toList.take n)[words (A ++ G) + j]? = some (.int .i64 x) := by
    rw [ht, List.getElem?_map, List.getElem?_append_right (by omega), hP, Nat.add_sub_cancel_left, List.getElem?_append_left (List.getElem?_eq_some_iff.1 hx).1, hx]; rfl
  rw [List.getElem?_take] at h1
  split at h1
  · rw [cell_of_row wr g _ cur 3 (0, 0) hg]; simpa using h1
  · cases h1

theorem Pk.copied (h : Pk base w wr B M g cap L A (G ++ it :: R) pv mv) (hA : ∀ k, Mine B M (.slice (some ⟨g, 0, none⟩) (words L) cap) k → k < w.heap.size) (hG : ∀ x ∈ G, x.2 = true) (hit : it.2 = false)
    {cur : Array Value} {mid : List Int} (hm : mid.length + words (keepL A) = words A) (hn : words L ≤ cap) (hx : cap ≤ maxLen) (hb : base ≤ g) (hs : cur.size = cap) (ht : cur.toList.take (words L) = (rowOf (keepL A) ++ (mid ++ rowOf (G ++ it :: R))).map (Value.int .i64))
    (h1 : w1.heap[g]? = some (.cells (cur.toList.take (words (keepL A)) ++ ((enc it).map (Value.int .i64) ++ cur.toList.drop (words (keepL A) + ((enc it).map (Value.int .i64)).length))).toArray 3 (0, 0))) (hgr : wr.drew.grownBy w1 (some g)) :
    Pc base w w1 B M g cap L A G R it pv mv ∧ w1.heap[M]? = wr.heap[M]? := by
  obtain ⟨hBM, hgB, hgM⟩ := h.apart
  obtain ⟨l1, l2⟩ := h.lts hA
  have hk := keepL_le A
  have hw : words L = words A + words G + (2 + it.1.length) + words R := by rw [h.hL, words_append, words_append]; simp only [words]; omega
  have hBlt : B < wr.heap.size := lt_of_block h.head
  have hMlt : M < wr.heap.size := h.pls.lt
  refine ⟨⟨?_, ?_, ?_, ?_, ?_⟩, ?_⟩
  · rw [hgr.block B hBlt (fun e => hgB (by injection e with e; exact e.symm))]; exact h.head
  · obtain ⟨mid', hm', hr'⟩ := pack_row (R := R) hm hG hit
    refine ⟨mid', hm', ?_⟩
    have hcl : cur.toList.length = cap := by simpa using hs
    have hel := enc_len it
    refine ⟨?_, .inr ⟨g, cap, _, rfl, hb, h1, hn, hx, ?_, ?_⟩⟩
    · rw [← hr']
      have := congrArg List.length ht
      simp only [List.length_take, List.length_map, List.length_append, List.length_drop] at this ⊢
      omega
    · simp only [List.size_toArray, List.length_append, List.length_take, List.length_map, List.length_drop]; omega
    · rw [← hr', List.map_append, List.map_append, List.map_take, List.map_drop, ← ht, List.length_map, Nat.mul_one]
      rw [List.take_take, List.drop_take]
      rw [List.take_append, List.take_append, List.take_of_length_le (by simp; omega), List.length_take, List.take_of_length_le (l := (enc it).map (Value.int .i64)) (by simp; omega)]
      simp only [List.length_map]
      congr 2
      · congr 1; omega
      · congr 1; omega
  · exact h.kp.drew.grown hgr (fun k _ e => by injection e with e; exact .inr (.inr (by rw [e]; rfl)))
  · exact World.ownsRow.kept (w := wr.drew) h.ps hgr (by
      cases hu : pv.ownBlock with
      | none => exact .inl rfl
      | some k => exact .inr (fun e => l1 k hu (.inr (.inr (by injection e)))))
  · exact World.ownsRow.kept (w := wr.drew) h.mv hgr (by
      cases hu : mv.ownBlock with
      | none => exact .inl rfl
      | some k => exact .inr (fun e => l2 k hu (.inr (.inr (by injection e)))))
  · exact hgr.block M hMlt (fun e => hgM (by injection e with e; exact e.symm))

theorem Pc.ends {w3 w4 : World} {mv' : Value} {o : Obj} (h : Pc base w w1 B M g cap L A G R it pv mv) (hL : L = A ++ (G ++ it :: R)) (hA : ∀ k, Mine B M (.slice (some ⟨g, 0, none⟩) (words L) cap) k → k < w.heap.size) (hap : B ≠ M ∧ g ≠ B ∧ g ≠ M) (hG : ∀ x ∈ G, x.2 = true) (hit : it.2 = false)
    (hg2 : w1.grownBy w2 (some M)) (hg3 : w2.grownBy w3 (some M)) (hP : Pls w3 M (keysOf (A ++ G ++ [it]) R)) (hg4 : (w3.alloc o).grownBy w4 mv.ownBlock)
    (ho : w4.ownsRow w.heap.size 42 2 mv' ((mvs A).length + 1) (mvCells (mvs A) ++ [.int .i64 ((words (A ++ G) : Nat) : Int), .int .i64 ((words (keepL A) : Nat) : Int)])) :
    Pk base w w4 B M g cap L (A ++ G ++ [it]) R pv mv' := by
  have k1 := hA B (.inl rfl)
  have k2 := hA M (.inr (.inl rfl))
  have k3 := hA g (.inr (.inr rfl))
  have hMv : ∀ k, mv.ownBlock = some k → w.heap.size ≤ k := fun k hk => (h.mv.lt k hk).1
  have z1 := h.kp.size
  have z2 := hg2.size
  have z3 := hg3.size
  have keep : ∀ k, k < w1.heap.size → k ≠ M → mv.ownBlock ≠ some k → w4.heap[k]? = w1.heap[k]? := by
    intro k hk hkM hkv
    rw [hg4.block k (by simp; omega) (fun e => hkv e.symm), heap_alloc_old w3 o (by omega), hg3.block k (by omega) (fun e => hkM (by injection e)), hg2.block k hk (fun e => hkM (by injection e))]
  have nB : mv.ownBlock ≠ some B := fun e => by have := hMv B e; omega
  have nM : mv.ownBlock ≠ some M := fun e => by have := hMv M e; omega
  have ng : mv.ownBlock ≠ some g := fun e => by have := hMv g e; omega
  have G14 : Kp (fun k => k = M ∨ mv.ownBlock = some k) w1 w4 := by
    refine ⟨?_, ?_, ?_, ?_, fun k hk hs => keep k hk (fun e => hs (.inl e)) (fun e => hs (.inr e))⟩
    · rw [hg4.os]; show w3.os = _; rw [hg3.os, hg2.os]
    · rw [hg4.tape]; show w3.tape = _; rw [hg3.tape, hg2.tape]
    · rw [hg4.output]; show w3.output = _; rw [hg3.output, hg2.output]
    · have := hg4.size; simp at this; omega
  refine ⟨by rw [hL]; simp, ?_, ?_, ?_, ?_, ?_, ?_⟩
  · rw [keep B (by omega) hap.1 nB]; exact h.head
  · obtain ⟨mid, hm, hr⟩ := h.row
    exact ⟨mid, hm, ownsRow_same hr (fun k e => by simp [Value.ownBlock] at e; subst e; exact keep _ (by omega) hap.2.2 ng)⟩
  · refine hP.same ?_
    rw [hg4.block M (by simp; omega) (fun e => nM e.symm), heap_alloc_old w3 o (by omega)]
  · refine ⟨G14.os.trans h.kp.os, G14.tape.trans h.kp.tape, G14.output.trans h.kp.output, Nat.le_trans h.kp.size G14.size, fun k hk hs => ?_⟩
    rw [keep k (by omega) (fun e => hs (.inr (.inl e))) (fun e => by have := hMv k e; omega)]
    exact h.kp.block k hk hs
  · refine ownsRow_same h.ps (fun k e => keep k (World.ownsRow.lt h.ps k e).2 (fun e' => ?_) (fun e' => ?_))
    · have := (World.ownsRow.lt h.ps k e).1; omega
    · rcases own_apart h.ps h.mv (by decide) with h0 | h0
      · rw [h0] at e; cases e
      · exact h0 (e.trans e'.symm)
  · rw [mvs_step hG hit, mvCells_snoc, List.length_append]; exact ho

/-- Behind the last round. -/
theorem Pk.done (h : Pk base w wr B M g cap L A R pv mv) (hlB : base ≤ B) (hlM : base ≤ M) (hR : ∀ it ∈ R, it.2 = true) :
    Arn base ((wr.setCell ⟨B, 1, none⟩ (.slice (some ⟨g, 0, none⟩) (words (keepL A)) cap)).setCell ⟨B, 3, none⟩ (.int .i64 0)) B M (.slice (some ⟨g, 0, none⟩) (words (keepL A)) cap) (keepL L) ∧ keepL L = keepL A ∧ mvs L = mvs A := by
  obtain ⟨hBM, hgB, hgM⟩ := h.apart
  have hk : keepL L = keepL A := by rw [h.hL, keepL_append, keepL_gone R hR, List.append_nil]
  obtain ⟨mid, hm, hr⟩ := h.row
  refine ⟨⟨hlB, hlM, ?_, ?_, ?_⟩, hk, ?_⟩
  · rw [hd_set (hd_set h.head)]
    simp [headOf, waste_keepL]
  · refine ownsRow_same (w := wr) ?_ (fun k e => ?_)
    · rcases hr.2 with ⟨e, _⟩ | ⟨g', cap', cur, e, hb, hg, hn, hx, hs, ht⟩
      · cases e
      · simp at e
        obtain ⟨rfl, rfl⟩ := e
        have hkl := keepL_le A
        have hwA : words A ≤ words L := by rw [h.hL, words_append]; omega
        rw [hk]
        refine ⟨by rw [List.length_map, rowOf_len, Nat.mul_one], .inr ⟨g, cap, cur, rfl, hb, hg, by omega, hx, hs, ?_⟩⟩
        have := congrArg (List.take (words (keepL A))) ht
        rw [List.take_take, Nat.mul_one, Nat.min_eq_left (by omega), List.map_append, List.take_append_of_le_length (by simp [rowOf_len]), List.take_of_length_le (l := (rowOf (keepL A)).map (Value.int .i64)) (by simp [rowOf_len])] at this
        rw [Nat.mul_one]; exact this
    · simp [Value.ownBlock] at e
      subst e
      rw [Below.heap_setCell _ _ _ _ hgB, Below.heap_setCell _ _ _ _ hgB]
  · rw [hk]
    have hp := h.pls
    rw [keys_end hR, ← h.hL, hk] at hp
    exact (hp.same (Below.heap_setCell _ _ _ _ (Ne.symm hBM))).same (Below.heap_setCell _ _ _ _ (Ne.symm hBM))
  · unfold mvs
    rw [hk, h.hL, plF_append, plF_gone R _ hR, List.append_nil]
end

end Go.Proofs.Ytbibbdkijgaoeaa
