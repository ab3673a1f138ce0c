/- Contracts of the document's arena: it is packed. -/
import Derived.Test.YtbibbdkijgaoeaaWalkO
import Derived.Test.YtbibbdkijgaoeaaWalkJ
set_option linter.unusedVariables false
set_option linter.unusedSimpArgs false
namespace Go.Proofs.Ytbibbdkijgaoeaa
open Go.RowKit Go.Maps

theorem keep_take_keep {L : List Itm} {k : Nat} (hk : k < L.length) (hg : L[k].2 = false) : keepL (L.take (k + 1)) = keepL (L.take k) ++ [L[k]] := by
  rw [List.take_succ_eq_append_getElem hk, keepL_append]; simp [keepL, hg]
theorem keep_take_gone {L : List Itm} {k : Nat} (hk : k < L.length) (hg : L[k].2 = true) : keepL (L.take (k + 1)) = keepL (L.take k) := by
  rw [List.take_succ_eq_append_getElem hk, keepL_append]; simp [keepL, hg]
theorem mvs_take_keep {L : List Itm} {k : Nat} (hk : k < L.length) (hg : L[k].2 = false) : mvs (L.take (k + 1)) = mvs (L.take k) ++ [(((words (L.take k) : Nat) : Int), ((words (keepL (L.take k)) : Nat) : Int))] := by
  have := mvs_step (A := L.take k) (G := []) (it := L[k]) (by simp) hg
  rw [List.append_nil] at this
  rw [List.take_succ_eq_append_getElem hk]; exact this
theorem mvs_take_gone {L : List Itm} {k : Nat} (hk : k < L.length) (hg : L[k].2 = true) : mvs (L.take (k + 1)) = mvs (L.take k) := by
  unfold mvs; rw [keep_take_gone hk hg, plF_take_gone hk hg]
theorem old_at {L : List Itm} {k : Nat} (hk : k < L.length) (hg : L[k].2 = false) : (plF 0 L)[(keepL (L.take k)).length]? = some ((words (L.take k) : Nat) : Int) := by
  have := pack_place (A := L.take k) (G := []) (R := L.drop (k + 1)) (it := L[k]) (by simp) hg
  rw [List.append_nil, List.nil_append, ← take_split hk, plF_len] at this
  exact this
theorem keepL_len_le (L : List Itm) : (keepL L).length ≤ L.length := List.length_filter_le _ _

/-- The document's arena in the midst of being packed. -/
structure Rp (F : Nat → Prop) (w W x : World) (L : List Itm) (k : Nat) (ov lv : Value) : Prop where
  out : x.heap[w.heap.size + 2]? = some (.cells #[ov] 28 (0, 0))
  cl : ∃ cells, x.ownsRow (w.heap.size + 3) 65 2 ov (keepL (L.take k)).length cells ∧ ItC F w cells (keepL (L.take k))
  ob : ∀ b, ov.ownBlock = some b → W.heap.size ≤ b
  mv : x.ownsRow (w.heap.size + 3) 42 2 lv (mvs (L.take k)).length (mvCells (mvs (L.take k)))
  mb : ∀ b, lv.ownBlock = some b → b = w.heap.size + 3 ∨ W.heap.size ≤ b
  kp : Kp (fun b => b = w.heap.size + 2 ∨ b = w.heap.size + 3) W x

section
variable {F : Nat → Prop} {w W x x' : World} {L : List Itm} {k : Nat} {ov lv : Value}

theorem Rp.below (h : Rp F w W x L k ov lv) (hb : Below x.heap.size x x') : Rp F w W x' L k ov lv := by
  have hg : x.grownBy x' none := ⟨hb.os, hb.tape, hb.output, hb.size, fun i hi _ => hb.block i hi⟩
  obtain ⟨cells, h1, h2⟩ := h.cl
  exact ⟨by rw [hb.block _ (lt_of_block h.out)]; exact h.out, ⟨cells, h1.kept hg (by cases ov.ownBlock <;> simp), h2⟩, h.ob, h.mv.kept hg (by cases lv.ownBlock <;> simp), h.mb, h.kp.grown hg (fun _ _ e => by cases e)⟩

theorem Rp.belowW (h : Rp F w W x L k ov lv) (hW : Below w.heap.size w W) : Below w.heap.size w x :=
  ⟨h.kp.os.trans hW.os, h.kp.tape.trans hW.tape, h.kp.output.trans hW.output, Nat.le_trans hW.size h.kp.size, fun b hb => (h.kp.block b (by have := hW.size; omega) (by omega)).trans (hW.block b hb)⟩

theorem out_ref {K : List Itm} {cells : List Value} (hb : Below w.heap.size w x) (h1 : x.ownsRow (w.heap.size + 3) 65 2 ov K.length cells) (h2 : ItC F w cells K) (hF : ∀ k, w.heap.size ≤ k → F k) : ∃ a cap, ov = .slice a K.length cap ∧ Ref F x a cap K := by
  have h3 := h2.kept (F' := F) (fun k hk hF => ⟨hb.block k hk, hF⟩) hb.size
  rcases h1.2 with ⟨rfl, h0⟩ | ⟨g, cap, cur, rfl, hg, _⟩
  · have hK := List.eq_nil_of_length_eq_zero h0
    exact ⟨none, 0, by rw [hK]; rfl, cells, h3, .inl ⟨rfl, hK, rfl⟩⟩
  · exact ⟨_, cap, rfl, ref_of_own h1 h3 (hF g (by omega))⟩

/-- What was packed so far, as a list of clauses. -/
theorem Rp.ref (h : Rp F w W x L k ov lv) (hW : Below w.heap.size w W) (hF : ∀ k, w.heap.size ≤ k → F k) : ∃ a cap, ov = .slice a (keepL (L.take k)).length cap ∧ Ref F x a cap (keepL (L.take k)) := by
  obtain ⟨cells, h1, h2⟩ := h.cl
  exact out_ref (h.belowW hW) h1 h2 hF

/-- A move more. -/
theorem Rp.moved {y : World} {g : Nat} {o : Obj} (h : Rp F w W x L k ov lv) (hy : Below x.heap.size x y) (hgr : (y.alloc o).grownBy x' lv.ownBlock) (hat : lv.ownBlock = some g ∨ g = y.heap.size + 1) (hW : w.heap.size + 3 < W.heap.size) :
    (∃ cells, x'.ownsRow (w.heap.size + 3) 65 2 ov (keepL (L.take k)).length cells ∧ ItC F w cells (keepL (L.take k))) ∧ x'.heap[w.heap.size + 2]? = some (.cells #[ov] 28 (0, 0)) ∧ Kp (fun b => b = w.heap.size + 2 ∨ b = w.heap.size + 3) W x' ∧ (g = w.heap.size + 3 ∨ W.heap.size ≤ g) := by
  have hz := h.kp.size
  have hzy := hy.size
  have h' := (h.below hy).below ((Below.refl _ _).alloc (Nat.le_refl _) o)
  obtain ⟨cells, h1, h2⟩ := h'.cl
  refine ⟨⟨cells, h1.kept hgr (own_apart h1 h'.mv (by decide)), h2⟩, ?_, h'.kp.grown hgr (fun b hb e => ?_), ?_⟩
  · rw [hgr.block _ (lt_of_block h'.out) (fun e => ?_)]
    · exact h'.out
    · rcases h.mb _ e.symm with h | h <;> omega
  · rcases h.mb b e with h | h
    · exact .inr h
    · omega
  · rcases hat with e | e
    · exact h.mb g e
    · exact .inr (by omega)
end

theorem undrew {w w' : World} {r : Option Nat} (h : w.drew.grownBy w' r) : w.grownBy w' r := ⟨h.os, h.tape, h.output, h.size, h.block⟩

/-- The cell of what is packed, behind an append. -/
theorem pack_stored {w W x x' : World} {ov : Value} {o : Obj} (hk : Kp (fun b => b = w.heap.size + 2 ∨ b = w.heap.size + 3) W x) (ho : x.heap[w.heap.size + 2]? = some (.cells #[ov] 28 (0, 0))) (hb : ∀ b, ov.ownBlock = some b → W.heap.size ≤ b) (hg : (x.alloc o).grownBy x' ov.ownBlock) (hW : w.heap.size + 3 < W.heap.size) :
    x'.heap[w.heap.size + 2]? = some (.cells #[ov] 28 (0, 0)) ∧ (x'.cell? ⟨w.heap.size + 1 + 1, 0, none⟩ = some ov ∧ x'.frozen? ⟨w.heap.size + 1 + 1, 0, none⟩ = false) ∧ Kp (fun b => b = w.heap.size + 2 ∨ b = w.heap.size + 3) W x' := by
  have hz := hk.size
  have h1 : x'.heap[w.heap.size + 2]? = some (.cells #[ov] 28 (0, 0)) := by
    rw [hg.block _ (by simp; omega) (fun e => by have := hb _ e.symm; omega), heap_alloc_old _ _ (by omega)]; exact ho
  exact ⟨h1, ⟨cell_of_one h1, free_of_one h1⟩, (hk.alloc o).grown hg (fun b hb' e => by have := hb b e; omega)⟩

theorem rp_next {F : Nat → Prop} {w W x x' : World} {L : List Itm} {k : Nat} {ov vc : Value} {cells : List Value} {g5 cap5 g6 cap6 : Nat} {o : Obj} (hlt : k < L.length) (hg : L[k].2 = false)
    (ho : x.ownsRow (w.heap.size + 3) 65 2 ov (keepL (L.take k)).length cells) (hI : ItC F w cells (keepL (L.take k))) (hc : Cl F w vc L[k].1)
    (hm : x.ownsRow (w.heap.size + 3) 42 2 (.slice (some ⟨g5, 0, none⟩) ((mvs (L.take k)).length + 1) cap5) ((mvs (L.take k)).length + 1) (mvCells (mvs (L.take k)) ++ [.int .i64 (words (L.take k)), .int .i64 (words (keepL (L.take k)))]))
    (hb5 : g5 = w.heap.size + 3 ∨ W.heap.size ≤ g5) (hob : ∀ b, ov.ownBlock = some b → W.heap.size ≤ b) (hz : W.heap.size ≤ x.heap.size) (hW : w.heap.size + 3 < W.heap.size)
    (ho6 : x'.ownsRow (w.heap.size + 3) 65 2 (.slice (some ⟨g6, 0, none⟩) ((keepL (L.take k)).length + 1) cap6) ((keepL (L.take k)).length + 1) (cells ++ [vc, .bool false])) (hgr : (x.alloc o).grownBy x' ov.ownBlock) (hat : ov.ownBlock = some g6 ∨ g6 = x.heap.size + 1)
    (r1 : x'.heap[w.heap.size + 2]? = some (.cells #[ov] 28 (0, 0))) (r3 : Kp (fun b => b = w.heap.size + 2 ∨ b = w.heap.size + 3) W x') :
    Rp F w W (x'.setCell ⟨w.heap.size + 2, 0, none⟩ (.slice (some ⟨g6, 0, none⟩) ((keepL (L.take k)).length + 1) cap6)) L (k + 1) (.slice (some ⟨g6, 0, none⟩) ((keepL (L.take k)).length + 1) cap6) (.slice (some ⟨g5, 0, none⟩) ((mvs (L.take k)).length + 1) cap5) := by
  have hg6 : W.heap.size ≤ g6 := by
    rcases hat with e | e
    · exact hob g6 e
    · omega
  refine ⟨one_setCell r1, ⟨cells ++ [vc, .bool false], ?_, ?_⟩, fun b e => by simp [Value.ownBlock] at e; omega, ?_, fun b e => by simp [Value.ownBlock] at e; subst e; exact hb5, r3.setCell (.inl rfl) _⟩
  · rw [keep_take_keep hlt hg, List.length_append]
    exact ownsRow_setCell_other (a := ⟨w.heap.size + 2, 0, none⟩) ho6 (by simp [Value.ownBlock]; omega) _
  · rw [keep_take_keep hlt hg]
    exact hI.append ⟨⟨hc, by rw [hg]⟩, trivial⟩
  · rw [mvs_take_keep hlt hg, mvCells_snoc, List.length_append]
    exact ownsRow_setCell_other (a := ⟨w.heap.size + 2, 0, none⟩) ((hm.alloc o).kept hgr (own_apart (hm.alloc o) (ho.alloc o) (by decide))) (by simp [Value.ownBlock]; omega) _

theorem Rp.gone {F : Nat → Prop} {w W x : World} {L : List Itm} {k : Nat} {ov lv : Value} (h : Rp F w W x L k ov lv) (hlt : k < L.length) (hg : L[k].2 = true) : Rp F w W x L (k + 1) ov lv :=
  ⟨h.out, by rw [keep_take_gone hlt hg]; exact h.cl, h.ob, by rw [mvs_take_gone hlt hg]; exact h.mv, h.mb, h.kp⟩

theorem below4 (w : World) (v : Value) : Below w.heap.size w ((((w.alloc (.cells #[v] 28)).alloc (.cells #[.slice none 0 0] 28)).alloc (.cells #[.slice none 0 0] 28)).alloc (.cells #[] 42)) := ((((Below.refl _ _).alloc (Nat.le_refl _) _).alloc (by simp) _).alloc (by simp; omega) _).alloc (by simp; omega) _

theorem ref_facts4 (w : World) (v : Value) (x : World) (hx : Below ((((w.alloc (.cells #[v] 28)).alloc (.cells #[.slice none 0 0] 28)).alloc (.cells #[.slice none 0 0] 28)).alloc (.cells #[] 42)).heap.size ((((w.alloc (.cells #[v] 28)).alloc (.cells #[.slice none 0 0] 28)).alloc (.cells #[.slice none 0 0] 28)).alloc (.cells #[] 42)) x) :
    x.heap[w.heap.size]? = some (.cells #[v] 28 (0, 0)) ∧ x.heap[w.heap.size + 1]? = some (.cells #[.slice none 0 0] 28 (0, 0)) ∧ x.heap[w.heap.size + 2]? = some (.cells #[.slice none 0 0] 28 (0, 0)) ∧ w.heap.size + 4 ≤ x.heap.size ∧ Below w.heap.size w x ∧ x.ownsRow (w.heap.size + 3) 42 2 (.slice (some ⟨w.heap.size + 3, 0, none⟩) 0 0) 0 [] := by
  have e1 : (w.alloc (.cells #[v] 28)).heap.size = w.heap.size + 1 := by simp
  have e2 : ((w.alloc (.cells #[v] 28)).alloc (.cells #[.slice none 0 0] 28)).heap.size = w.heap.size + 2 := by simp
  have e3 : (((w.alloc (.cells #[v] 28)).alloc (.cells #[.slice none 0 0] 28)).alloc (.cells #[.slice none 0 0] 28)).heap.size = w.heap.size + 3 := by simp
  have e4 : ((((w.alloc (.cells #[v] 28)).alloc (.cells #[.slice none 0 0] 28)).alloc (.cells #[.slice none 0 0] 28)).alloc (.cells #[] 42)).heap.size = w.heap.size + 4 := by simp
  have a0 := heap_alloc_new w (.cells #[v] 28)
  have a1 := heap_alloc_new (w.alloc (.cells #[v] 28)) (.cells #[.slice none 0 0] 28)
  have a2 := heap_alloc_new ((w.alloc (.cells #[v] 28)).alloc (.cells #[.slice none 0 0] 28)) (.cells #[.slice none 0 0] 28)
  have a3 := World.ownsRow_made (base := w.heap.size + 3) (e := 42) (size := 2) (((w.alloc (.cells #[v] 28)).alloc (.cells #[.slice none 0 0] 28)).alloc (.cells #[.slice none 0 0] 28)) #[] 0 (by omega) (Nat.zero_le _) rfl
  rw [e1] at a1
  rw [e2] at a2
  rw [e3] at a3
  have hs := hx.size
  refine ⟨?_, ?_, ?_, by omega, (below4 w v).trans (hx.mono (by omega)), ownsRow_same a3 (fun k e => ?_)⟩
  · rw [hx.block _ (by omega), heap_alloc_old _ _ (by omega), heap_alloc_old _ _ (by omega), heap_alloc_old _ _ (by omega)]; exact a0
  · rw [hx.block _ (by omega), heap_alloc_old _ _ (by omega), heap_alloc_old _ _ (by omega)]; exact a1
  · rw [hx.block _ (by omega), heap_alloc_old _ _ (by omega)]; exact a2
  · simp [Value.ownBlock] at e; subst e; exact hx.block _ (by omega)

theorem lit_two' (w : World) (o : Obj) (x y : Value) (t : TypeId) : ∀ j u, [x, y][j]? = some u → ((w.alloc o).alloc (.cells #[x, y] t)).cell? ((⟨w.heap.size + 1, 0, none⟩ : Addr).add j) = some u := by
  have := lit_two (w.alloc o) x y t
  rw [show (w.alloc o).heap.size = w.heap.size + 1 by simp] at this
  exact this

set_option maxHeartbeats 3200000 in
theorem refPack_any (F : Nat → Prop) (w : World) (a : Option Addr) (cap : Nat) (L : List Itm) (hR : Ref F w a cap L) (hl : words L ≤ 20000) (hF : ∀ k, w.heap.size ≤ k → F k) :
    Calls Try.prog 24 #[.agg #[.slice a L.length cap]] w fun e w' => (∃ a' cap' v, e = .returned (.tuple #[.agg #[.slice a' (keepL L).length cap'], v]) ∧ Ref F w' a' cap' (keepL L) ∧ Mvs w.heap.size w' v (mvs L)) ∧ Below w.heap.size w w' := by
  obtain ⟨i0, hi0, hz0, hz1, hz2⟩ := info_parts Try.info65
  obtain ⟨i4, hi4, hy0, hy1, hy2⟩ := info_parts Try.info42
  have hlw := len_le_words L
  have G : Hid (∀ u, Below w.heap.size w u → Calls Try.prog 25 #[.agg #[.slice a L.length cap]] u fun e w' => ∃ v, e = .returned v ∧ Own u.heap.size w' v (plF 0 L) ∧ Below u.heap.size u w') := fun u hu => refPlaces_any F u a cap L (hR.below hu) hl
  have HR := hide hR
  have HF := hide hF
  clear hR hF
  go_enter Try.func24, Try.ntmps24
  go_wp2_with (go_at_call 25; refine ((unhide G) _ (below4 w _)).mono ?_; rintro e W ⟨pv, rfl, hold, hbW⟩; obtain ⟨pa, pc, hpe, hprow, hpm, hpc⟩ := hold.row; subst hpe)
  obtain ⟨z0, z1, z2, zs, zb, zm⟩ := ref_facts4 w (.slice a L.length cap) W hbW
  have HOLD : Hid (Own (w.heap.size + 4) W (.slice pa (plF 0 L).length pc) (plF 0 L)) := by
    have := hold
    rw [show ((((w.alloc (.cells #[.slice a L.length cap] 28)).alloc (.cells #[.slice none 0 0] 28)).alloc (.cells #[.slice none 0 0] 28)).alloc (.cells #[] 42)).heap.size = w.heap.size + 4 by simp] at this
    exact this
  have HP : Hid (Rp F w W W L 0 (.slice none 0 0) (.slice (some ⟨w.heap.size + 1 + 1 + 1, 0, none⟩) 0 0)) :=
    ⟨z2, ⟨[], World.ownsRow_nil _ _ _ _, trivial⟩, fun b e => by simp [Value.ownBlock] at e, by simpa [mvs, mvCells, plF] using zm, fun b e => by simp [Value.ownBlock] at e; omega, Kp.of_below (Below.refl _ _)⟩
  have HZ0 := hide z0
  have HZ1 := hide z1
  have HZB := hide zb
  clear hold hbW hprow z0 z1 z2 zm zb G
  unfold maxLen at hpm
  go_loopw [5, 7] (fun lv i x => ∃ (k : Nat) (ov : Value), k ≤ L.length ∧ i = .int .i64 k ∧ Rp F w W x L k ov lv) (fun _ i _ => L.length - (intOf i).toNat)
  case atStart => exact ⟨0, _, Nat.zero_le _, rfl, HP.out⟩
  case round =>
    clear HP
    obtain ⟨k, ov, hk, rfl, hP⟩ := hrel
    have hbx := hP.belowW HZB.out
    have y0 : wr.cell? ⟨w.heap.size, 0, none⟩ = some (.slice a L.length cap) := cell_of_one ((hP.kp.block _ (by omega) (by omega)).trans HZ0.out)
    have y2 : wr.cell? ⟨w.heap.size + 1 + 1, 0, none⟩ = some ov := cell_of_one hP.out
    have f2 : wr.frozen? ⟨w.heap.size + 1 + 1, 0, none⟩ = false := free_of_one hP.out
    have hsx : w.heap.size + 4 ≤ wr.heap.size := Nat.le_trans zs hP.kp.size
    by_cases hlt : k < L.length
    · obtain ⟨b, off, ai, ci, rfl, hb, h1, h2, h3, h4⟩ := HR.out.at k hlt
      have g1 := (hbx.cell (p := ⟨b, off + k * 2, none⟩) hb).trans h1
      have g2 := (hbx.cell (p := ⟨b, off + k * 2 + 1, none⟩) hb).trans h2
      cases hg : L[k].2
      · rw [hg] at g2
        obtain ⟨ao, co, hov, href⟩ := hP.ref HZB.out HF.out
        subst hov
        have hkl : (keepL (L.take k)).length ≤ 20000 := by have := keepL_len_le (L.take k); simp at this; omega
        have hwk : words (keepL (L.take k)) ≤ 20000 := by have := keepL_le (L.take k); have := words_take_le L k; omega
        have hpo := old_at hlt hg
        obtain ⟨hpl, hpe⟩ := List.getElem?_eq_some_iff.1 hpo
        obtain ⟨pb, po, hpa, hpb, hpcell⟩ : ∃ pb po, pa = some ⟨pb, po, none⟩ ∧ (w.heap.size + 4 ≤ pb ∧ pb < W.heap.size) ∧ W.cell? ⟨pb, po + (keepL (L.take k)).length, none⟩ = some (.int .i64 (words (L.take k))) := by
          obtain ⟨pa', pc', e, hr, _, _⟩ := HOLD.out.row
          simp only [Value.slice.injEq, true_and] at e
          obtain ⟨rfl, rfl⟩ := e
          obtain ⟨pb, po, e, hb, hc⟩ := hr.get hpo
          subst e
          exact ⟨pb, po, rfl, ⟨(World.ownsRow.lt HOLD.out pb rfl).1, hb⟩, hc⟩
        subst hpa
        have y3 : wr.cell? ⟨pb, po + (keepL (L.take k)).length, none⟩ = some (.int .i64 (words (L.take k))) := (World.cell?_of_block (hP.kp.block pb hpb.2 (by omega))).trans hpcell
        have GW : Hid (∀ y, Below wr.heap.size wr y → Calls Try.prog 27 #[.agg #[.slice ao (keepL (L.take k)).length co]] y fun e w' => e = .returned (.int .i64 (words (keepL (L.take k)))) ∧ w' = y.alloc (.cells #[.slice ao (keepL (L.take k)).length co] 28)) :=
          fun y hy => refWords_any F y ao co _ (href.below hy) hwk
        have HPK := hide hP
        have HY3 := hide hpcell
        have hml : (mvs (L.take k)).length ≤ 20000 := by rw [mvs_len]; have := plF_len_le (L.take k) 0; simp at this; omega
        have hlenpl : (keepL (L.take k)).length < (plF 0 L).length := hpl
        have H1 := hide h1
        have H2 := hide h2
        have H34 := hide (And.intro h3 h4)
        clear hP href hpo hpe hpcell h1 h2 h3 h4 hpl
        go_wp2_with fail
        go_region_held3 (fun y => y.cell? ⟨w.heap.size + 1 + 1, 0, none⟩ = some (.slice ao (keepL (L.take k)).length co) ∧ y.cell? ⟨pb, po + (keepL (L.take k)).length, none⟩ = some (.int .i64 (words (L.take k)))) (first | go_keep | exact ⟨by assumption, by assumption⟩ | simp [*])
          (first
            | (refine step_append_lies _ (by rfl) (.tmp 26) (.tmp 36) 39 (by rfl) (w.heap.size + 3) 42 i4 (.agg #[.int .i64 0, .int .i64 0]) 2 16 Try.underlying39 hi4 hy0 hy1 hy2 rfl (by decide) u5 (mvs (L.take k)).length (mvCells (mvs (L.take k))) (by rfl) (((HPK.out.mv.alloc _).alloc _)) ⟨wr.heap.size + 1, 0, none⟩ 1 1 [.int .i64 (words (L.take k)), .int .i64 (words (keepL (L.take k)))] (by rfl) (by rfl) (lit_two' wr _ _ _ _) (by simp [Value.oneCell']) (by decide) (by unfold maxLen; omega) (by omega) (by simp; omega) (wr.heap.size + 1 + 1) (by simp) ?_; intro g5 cap5 w5 ho5 hgr5 hat5 hlt5; obtain ⟨hcl5, hout5, hkp5, hb5⟩ := Rp.moved (y := wr.alloc (.cells #[.slice ao (keepL (L.take k)).length co] 28)) (o := .cells #[.int .i64 (words (L.take k)), .int .i64 (words (keepL (L.take k)))] 42) HPK.out ((Below.refl _ _).alloc (Nat.le_refl _) _) (undrew hgr5) (hat5.imp id (fun e => by rw [e]; simp)) (by omega); have x2 : w5.cell? ⟨w.heap.size + 1 + 1, 0, none⟩ = some (.slice ao (keepL (L.take k)).length co) := cell_of_one hout5; have x3 : w5.cell? ⟨pb, po + (keepL (L.take k)).length, none⟩ = some (.int .i64 (words (L.take k))) := (World.cell?_of_block (hkp5.block pb hpb.2 (by omega))).trans HY3.out)
            | (go_at_call 27; refine ((unhide GW) _ (Below.refl _ _).drew).mono ?_; rintro e w0 ⟨rfl, hw0⟩; subst w0))
        obtain ⟨cells5, ho65, hI5⟩ := hcl5
        have hbx5 : Below w.heap.size w w5 := ⟨hkp5.os.trans HZB.out.os, hkp5.tape.trans HZB.out.tape, hkp5.output.trans HZB.out.output, Nat.le_trans HZB.out.size hkp5.size, fun b hb => (hkp5.block b (by have := HZB.out.size; omega) (by omega)).trans (HZB.out.block b hb)⟩
        have x0 : w5.cell? ⟨w.heap.size, 0, none⟩ = some (.slice (some ⟨b, off, none⟩) L.length cap) := cell_of_one ((hkp5.block _ (by omega) (by omega)).trans HZ0.out)
        have xf : w5.frozen? ⟨w.heap.size + 1 + 1, 0, none⟩ = false := free_of_one hout5
        have x4 := (hbx5.cell (p := ⟨b, off + k * 2, none⟩) hb).trans H1.out
        have x5 := (hbx5.cell (p := ⟨b, off + k * 2 + 1, none⟩) hb).trans H2.out
        rw [hg] at x5
        have hs5 : w.heap.size + 4 ≤ w5.heap.size := Nat.le_trans zs hkp5.size
        have hs6 : w.heap.size + 1 + 1 < w5.heap.size := by omega
        have hs7 : w.heap.size < w5.heap.size := by omega
        have hs8 : b < w5.heap.size := by omega
        have HO5 := hide ho65
        have HM5 := hide ho5
        have HKP5 := hide hkp5
        have HB5 := hide hb5
        have HOUT5 := hide hout5
        clear x3 hgr5 hat5 hlt5 ho5 hkp5 hb5 hout5 ho65 y0 y2 y3 f2 g1 g2 GW
        go_wp2_with fail
        go_region_law (first
          | (refine step_append_lies _ (by rfl) (.tmp 39) (.tmp 45) 26 (by rfl) (w.heap.size + 3) 65 i0 (.agg #[.slice none 0 0, .bool false]) 2 32 Try.underlying26 hi0 hz0 hz1 hz2 rfl (by decide) (.slice ao (keepL (L.take k)).length co) (keepL (L.take k)).length cells5 (by rfl) (HO5.out.alloc _) ⟨w5.heap.size, 0, none⟩ 1 1 [.slice ai L[k].1.length ci, .bool false] (by rfl) (by rfl) (lit_two w5 _ _ _) (by simp [Value.oneCell']) (by decide) (by unfold maxLen; omega) (by omega) (by simp [World.drew]; omega) (w5.heap.size + 1) (by simp [World.drew]) ?_; intro g6 cap6 w6 ho6 hgr6 hat6 hlt6; obtain ⟨r1, r2, r3⟩ := pack_stored HKP5.out HOUT5.out HPK.out.ob (undrew hgr6) (by omega)))
        all_goals
          have hN := rp_next hlt hg HO5.out hI5 ⟨ai, ci, rfl, H34.out.1, H34.out.2⟩ HM5.out HB5.out HPK.out.ob HKP5.out.size (by omega) ho6 (undrew hgr6) hat6 r1 r3
          clear r1 r3 hgr6 hat6 hlt6 ho6
          obtain ⟨r2a, r2b⟩ := r2
          go_wp2
          go_roundw
          case rel => exact ⟨k + 1, _, by omega, by go_num, hN⟩
          case measure => simp [intOf]; omega
      · rw [hg] at g2
        have hN := hP.gone hlt hg
        clear hP
        go_wp2
        go_roundw
        case rel => exact ⟨k + 1, _, by omega, by go_num, hN⟩
        case measure => simp [intOf]; omega
    · have hke : L.take k = L := List.take_of_length_le (by omega)
      obtain ⟨ao, co, hov, href⟩ := hP.ref HZB.out HF.out
      subst hov
      have y1 : wr.heap[w.heap.size + 1]? = some (.cells #[.slice none 0 0] 28 (0, 0)) := (hP.kp.block _ (by omega) (by omega)).trans HZ1.out
      have y1c := cell_of_one y1
      have y1f := free_of_one y1
      have hBf := hbx.setCell (p := ⟨w.heap.size + 1, 0, none⟩) (by show w.heap.size ≤ w.heap.size + 1; omega) (.slice ao (keepL (L.take k)).length co)
      obtain ⟨cells, h1, h2⟩ := hP.cl
      obtain ⟨a', cap', e, hrf⟩ := out_ref hBf (ownsRow_setCell_other (a := ⟨w.heap.size + 1, 0, none⟩) h1 (fun e => by have := hP.ob _ e; have : W.heap.size ≤ w.heap.size + 1 := this; omega) _) h2 HF.out
      simp only [Value.slice.injEq, true_and] at e
      obtain ⟨rfl, rfl⟩ := e
      have hmv := ownsRow_setCell_other (a := ⟨w.heap.size + 1, 0, none⟩) hP.mv (fun e => by have := hP.mb _ e; have : w.heap.size + 1 = w.heap.size + 3 ∨ W.heap.size ≤ w.heap.size + 1 := this; omega) (.slice ao (keepL (L.take k)).length co)
      have HRF := hide hrf
      have HMV := hide hmv
      have HBF := hide hBf
      have HKE := hide hke
      clear hP href hmv y1 h1 h2 hrf hBf hke
      go_wp2
      refine bodyPost_ret (v := .tuple #[.agg #[.slice ao (keepL (L.take k)).length co], u5]) (by simp [results, Try.results24, go_sem, y1c]) rfl ⟨⟨ao, co, u5, by rw [HKE.out], ?_, ?_⟩, HBF.out⟩
      · have := HRF.out; rw [HKE.out] at this ⊢; exact this
      · have := HMV.out
        unfold Mvs
        rw [HKE.out] at this ⊢
        exact ownsRow_base this (by omega)

end Go.Proofs.Ytbibbdkijgaoeaa
