/- What the document's way has read so far of a proof, as it lies in memory. -/
import Derived.Test.YtgklollpajhmlaaDoorWalkK
set_option linter.unusedVariables false
set_option linter.unusedSimpArgs false
namespace Go.Proofs.YtgklollpajhmlaaDoor
open Go.RowKit Go.Maps

/-- Words behind a slice, in a block below N. -/
def Wv (N : Nat) (w : World) (a : Option Addr) (ws : List (Nat × List UInt8)) : Prop :=
  ∀ i (h : i < ws.length), ∃ b off, a = some ⟨b, off, none⟩ ∧ b < N ∧ w.cell? ⟨b, off + i * 2, none⟩ = some (.int .i64 (ws[i].1 : Int)) ∧ w.cell? ⟨b, off + i * 2 + 1, none⟩ = some (.string (str ws[i].2))

theorem wcells_get (ws : List (Nat × List UInt8)) : ∀ i (h : i < ws.length), (wcells ws)[i * 2]? = some (.int .i64 (ws[i].1 : Int)) ∧ (wcells ws)[i * 2 + 1]? = some (.string (str ws[i].2)) := by
  induction ws with
  | nil => intro i h; simp at h
  | cons x ws ih =>
    intro i h
    have e : wcells (x :: ws) = .int .i64 (x.1 : Int) :: .string (str x.2) :: wcells ws := by simp [wcells]
    rw [e]
    cases i with
    | zero => simp
    | succ i =>
      obtain ⟨h1, h2⟩ := ih i (by simpa using h)
      rw [show (i + 1) * 2 = i * 2 + 1 + 1 by omega, show i * 2 + 1 + 1 + 1 = (i * 2 + 1) + 1 + 1 by omega]
      simp only [List.getElem?_cons_succ, List.getElem_cons_succ]
      exact ⟨h1, h2⟩

theorem OW.view {base : Nat} {w : World} {v : Value} {ws : List (Nat × List UInt8)} (h : OW base w v ws) : ∃ a cap, v = .slice a ws.length cap ∧ Wv w.heap.size w a ws := by
  unfold OW at h
  rcases h.2 with ⟨rfl, h0⟩ | ⟨g, cap, cur, rfl, hb, hg, hn, hm, hs, ht⟩
  · exact ⟨none, 0, by rw [h0], fun i hi => by omega⟩
  · refine ⟨_, cap, rfl, fun i hi => ?_⟩
    obtain ⟨e0, e1⟩ := wcells_get ws i hi
    have hcell : ∀ j x, (wcells ws)[j]? = some x → w.cell? ⟨g, 0 + j, none⟩ = some x := fun j x hx => by
      have := h.cells (g := g) rfl j x hx
      rw [Addr.add_lit] at this
      exact this
    exact ⟨g, 0, rfl, (Array.getElem?_eq_some_iff.1 hg).1, hcell _ _ e0, by rw [Nat.add_assoc]; exact hcell _ _ e1⟩

theorem Wv.below {N : Nat} {w w' : World} {a : Option Addr} {ws : List (Nat × List UInt8)} (h : Wv N w a ws) (hb : Below N w w') : Wv N w' a ws := by
  intro i hi
  obtain ⟨b, off, e, hlt, h1, h2⟩ := h i hi
  exact ⟨b, off, e, hlt, (hb.cell (p := ⟨b, off + i * 2, none⟩) hlt).trans h1, (hb.cell (p := ⟨b, off + i * 2 + 1, none⟩) hlt).trans h2⟩

/-- What was read so far. -/
structure Rf (N G : Nat) (W w : World) (s : Rs) (g n c : Nat) (vl : Value) (cells : List Value) : Prop where
  blk : w.heap[G]? = some (.cells #[.bool s.del, vl] 36 (0, 0))
  len : n = s.steps.length
  row : w.ownsRow N 36 2 (.slice (some ⟨g, 0, none⟩) n c) n cells
  nG : g ≠ G
  each : ∀ i (h : i < s.steps.length), ∃ u, cells[i * 2]? = some (.bool s.steps[i].1) ∧ cells[i * 2 + 1]? = some u ∧ Own N w u s.steps[i].2
  cur : Own N w vl s.cl
  low : N ≤ G
  bel : Below N W w

theorem two_cells {w : World} {R : Nat} {a b : Value} {t : TypeId} (h : w.heap[R]? = some (.cells #[a, b] t (0, 0))) :
    w.cell? ⟨R, 0, none⟩ = some a ∧ w.cell? ⟨R, 1, none⟩ = some b ∧ w.frozen? ⟨R, 0, none⟩ = false ∧ w.frozen? ⟨R, 1, none⟩ = false := by
  refine ⟨?_, ?_, ?_, ?_⟩ <;> simp [World.cell?, World.frozen?, h]

/-- A row of numbers does not lie in a block of steps. -/
theorem own_not {N G : Nat} {w : World} {u : Value} {xs : List Int} {cs : Array Value} (h : Own N w u xs) (hG : w.heap[G]? = some (.cells cs 36 (0, 0))) : u.ownBlock ≠ some G := by
  intro e
  obtain ⟨cur, hc⟩ := own_block h e
  rw [hG] at hc
  simp at hc

section
variable {N G : Nat} {W w : World} {s : Rs} {g n c : Nat} {vl : Value} {cells : List Value}

theorem Rf.below {w' : World} (h : Rf N G W w s g n c vl cells) (hb : Below w.heap.size w w') : Rf N G W w' s g n c vl cells := by
  have hG := lt_of_block h.blk
  have hl := h.low
  refine ⟨by rw [hb.block G hG]; exact h.blk, h.len, owns_below h.row hb, h.nG, fun i hi => ?_, h.cur.below hb, h.low, h.bel.trans (hb.mono (by omega))⟩
  obtain ⟨u, h1, h2, h3⟩ := h.each i hi
  exact ⟨u, h1, h2, h3.below hb⟩

theorem Rf.set {w' : World} {i : Nat} {x : Value} {d : Bool} {vl' : Value} {cl : List Int} (h : Rf N G W w s g n c vl cells) (hw : w' = w.setCell ⟨G, i, none⟩ x) (hb : w'.heap[G]? = some (.cells #[.bool d, vl'] 36 (0, 0))) (hc : Own N w' vl' cl) : Rf N G W w' ⟨s.steps, d, cl⟩ g n c vl' cells := by
  subst hw
  refine ⟨hb, h.len, ownsRow_setCell_other h.row (by have := h.nG; simp [Value.ownBlock]; exact this) _, h.nG, fun i hi => ?_, hc, h.low, h.bel.setCell h.low _⟩
  obtain ⟨u, h1, h2, h3⟩ := h.each i hi
  have hu := own_not h3 h.blk
  exact ⟨u, h1, h2, ownsRow_setCell_other h3 hu _⟩

theorem own_set {i : Nat} {x : Value} {u : Value} {xs : List Int} {cs : Array Value} (h : Own N w u xs) (hG : w.heap[G]? = some (.cells cs 36 (0, 0))) : Own N (w.setCell ⟨G, i, none⟩ x) u xs := by
  have hu := own_not h hG
  exact ownsRow_setCell_other h hu _

theorem Rf.del1 (h : Rf N G W w s g n c vl cells) : Rf N G W (w.setCell ⟨G, 0, none⟩ (.bool true)) ⟨s.steps, true, s.cl⟩ g n c vl cells :=
  h.set rfl (hd_set h.blk) (own_set h.cur h.blk)

theorem Rf.lit {w3 : World} {v' : Value} {x : Int} (h : Rf N G W w s g n c vl cells) (hb : Below w.heap.size w w3) (ho : Own N w3 v' (s.cl ++ [x])) : Rf N G W (w3.setCell ⟨G, 1, none⟩ v') ⟨s.steps, s.del, s.cl ++ [x]⟩ g n c v' cells :=
  (h.below hb).set rfl (hd_set (h.below hb).blk) (own_set ho (h.below hb).blk)

/-- A step more. -/
theorem Rf.zero {w2 : World} {g' c' : Nat} {o : Obj} (h : Rf N G W w s g n c vl cells) (hg : (w.alloc o).grownBy w2 (some g)) (ho : w2.ownsRow N 36 2 (.slice (some ⟨g', 0, none⟩) (n + 1) c') (n + 1) (cells ++ [.bool s.del, vl])) (hat : g' = g ∨ g' = (w.alloc o).heap.size) :
    w2.heap[G]? = some (.cells #[.bool s.del, vl] 36 (0, 0)) ∧ (w2.setCell ⟨G, 0, none⟩ (.bool false)).heap[G]? = some (.cells #[.bool false, vl] 36 (0, 0)) ∧
    Rf N G W ((w2.setCell ⟨G, 0, none⟩ (.bool false)).setCell ⟨G, 1, none⟩ (.slice none 0 0)) ⟨s.steps ++ [(s.del, s.cl)], false, []⟩ g' (n + 1) c' (.slice none 0 0) (cells ++ [.bool s.del, vl]) := by
  have hGl := lt_of_block h.blk
  have hG1 : G < (w.alloc o).heap.size := by rw [size_alloc]; omega
  have hng := h.nG
  have hblk : w2.heap[G]? = some (.cells #[.bool s.del, vl] 36 (0, 0)) := by
    rw [hg.block G hG1 (by simp; exact fun e => hng e.symm), (below_alloc w o).block G hGl]; exact h.blk
  have hblk1 : (w2.setCell ⟨G, 0, none⟩ (.bool false)).heap[G]? = some (.cells #[.bool false, vl] 36 (0, 0)) := hd_set hblk
  have hblk2 : ((w2.setCell ⟨G, 0, none⟩ (.bool false)).setCell ⟨G, 1, none⟩ (.slice none 0 0)).heap[G]? = some (.cells #[.bool false, .slice none 0 0] 36 (0, 0)) := hd_set hblk1
  have hvl : cells.length = n * 2 := h.row.1
  have hlen := h.len
  have hng' : g' ≠ G := by rcases hat with e | e <;> omega
  have hgb := (h.row.lt g rfl).1
  have hold : ∀ {u : Value} {xs : List Int}, Own N w u xs → Own N ((w2.setCell ⟨G, 0, none⟩ (.bool false)).setCell ⟨G, 1, none⟩ (.slice none 0 0)) u xs := by
    intro u xs hu
    have h2 : Own N w2 u xs := (World.ownsRow.alloc hu o).kept hg (own_apart hu h.row (by decide))
    exact own_set (own_set h2 hblk) hblk1
  refine ⟨hblk, hblk1, ⟨hblk2, by simp [hlen], ?_, hng', ?_, World.ownsRow_nil _ _ _ _, h.low, ?_⟩⟩
  · have hne : (Value.slice (some ⟨g', 0, none⟩) (n + 1) c').ownBlock ≠ some G := by simp [Value.ownBlock]; exact hng'
    exact ownsRow_setCell_other (ownsRow_setCell_other ho hne _ (a := ⟨G, 0, none⟩)) hne _ (a := ⟨G, 1, none⟩)
  · intro i hi
    simp only [List.length_append, List.length_cons, List.length_nil] at hi
    rcases Nat.lt_or_ge i s.steps.length with h1 | h1
    · obtain ⟨u, e0, e, hu⟩ := h.each i h1
      refine ⟨u, ?_, ?_, ?_⟩
      · simp only [List.getElem_append_left h1]; rw [List.getElem?_append_left (by omega)]; exact e0
      · rw [List.getElem?_append_left (by omega)]; exact e
      · simp only [List.getElem_append_left h1]; exact hold hu
    · have e : i = s.steps.length := by omega
      subst e
      refine ⟨vl, ?_, ?_, ?_⟩
      · simp only [List.getElem_append_right (Nat.le_refl _), Nat.sub_self, List.getElem_cons_zero]
        rw [List.getElem?_append_right (by omega), hvl, hlen]; simp
      · rw [List.getElem?_append_right (by omega), hvl, hlen, show s.steps.length * 2 + 1 - s.steps.length * 2 = 1 by omega]; rfl
      · simp only [List.getElem_append_right (Nat.le_refl _), Nat.sub_self, List.getElem_cons_zero]; exact hold h.cur
  · have hl := h.low
    have hN : N ≤ w.heap.size := by omega
    exact Below.setCell (Below.setCell ((h.bel.alloc hN o).grown hg (by rw [size_alloc]; omega) (fun k hk => by simp at hk; omega)) h.low _) h.low _

theorem Rf.ost (h : Rf N G W w s g n c vl cells) : OSt N w (.slice (some ⟨g, 0, none⟩) n c) s.steps := by
  obtain ⟨h1, h2, h3, h4, h5, h6, h7, h8⟩ := h
  subst h2
  exact ⟨cells, h3, h5⟩
end

theorem runW_nil (s : Rs) (n : Nat) : runW s n [] = endP s n := by rw [runW]
theorem runW_cons (s : Rs) (n : Nat) (x : Nat × List UInt8) (r : List (Nat × List UInt8)) : runW s n (x :: r) = if wordE s x.2 = 0 then runW (wordS s x.2) n r else (wordE s x.2, x.1, []) := by rw [runW]

end Go.Proofs.YtgklollpajhmlaaDoor
