/- Contract: a formula where a literal is true (the document's own). -/
import Derived.Test.YtiddcpemckifmaaWalkP
import Derived.Test.YtiddcpemckifmaaLawHolds
import Derived.Deep.RegionLaw
set_option linter.unusedVariables false
set_option linter.unusedSimpArgs false
namespace Go.Proofs.Ytiddcpemckifmaa
open Go.RowKit

attribute [local go_sem ↓] Go.wp_at_zero Go.wp_at_succ

theorem two_free {w x : World} {p0 p1 q0 q1 : Value} {t1 t2 : TypeId} (h : Below (w.heap.size + 2) ((w.alloc (.cells #[p0, p1] t1)).alloc (.cells #[q0, q1] t2)) x) :
    x.frozen? ⟨w.heap.size + 1, 0, none⟩ = false ∧ x.frozen? ⟨w.heap.size + 1, 1, none⟩ = false ∧ x.heap[w.heap.size + 1]? = some (.cells #[q0, q1] t2 (0, 0)) := by
  have e : x.heap[w.heap.size + 1]? = some (.cells #[q0, q1] t2 (0, 0)) := by
    rw [h.block _ (by omega)]
    have := heap_alloc_new (w.alloc (.cells #[p0, p1] t1)) (.cells #[q0, q1] t2)
    rw [size_alloc] at this
    exact this
  exact ⟨(cell_of_two e).2.2.1, (cell_of_two e).2.2.2, e⟩

theorem OG.mono {base base' : Nat} {w : World} {v : Value} {css : List (List Int)} (h : OG base w v css) (hb : base' ≤ base) : OG base' w v css := by
  obtain ⟨vs, h1, h2⟩ := h
  refine ⟨vs, ⟨h1.1, ?_⟩, fun i hi => ?_⟩
  · rcases h1.2 with hn | ⟨g, cap, cur, e, g1, r⟩
    · exact .inl hn
    · exact .inr ⟨g, cap, cur, e, Nat.le_trans hb g1, r⟩
  · obtain ⟨u, e, ho⟩ := h2 i hi
    exact ⟨u, e, ho.mono hb⟩

theorem cells_set0 {w : World} {G : Nat} {p q x : Value} (h : w.heap[G]? = some (.cells #[p, q] 36 (0, 0))) : (w.setCell ⟨G, 0, Option.none⟩ x).heap[G]? = some (.cells #[x, q] 36 (0, 0)) := by
  have hlt := lt_of_block h
  have h' : w.heap[G] = .cells #[p, q] 36 (0, 0) := by simpa [Array.getElem?_eq_getElem hlt] using h
  show (w.heap.modify G _)[G]? = _
  rw [Array.getElem?_eq_getElem (by simpa using hlt), Array.getElem_modify_self, h']
  rfl

/-- What is handed back, behind its two stores. -/
theorem given_end {w W x : World} {R B : Nat} {p q p' v : Value} {css : List (List Int)} (h0 : Below w.heap.size w W) (h1 : Below B W x) (hR : x.heap[R]? = some (.cells #[p, q] 36 (0, 0))) (hog : OG (B + 1) x v css) (hRw : w.heap.size ≤ R) (hB : w.heap.size ≤ B) :
    OG w.heap.size ((x.setCell ⟨R, 0, none⟩ p').setCell ⟨R, 1, none⟩ v) v css ∧ Below w.heap.size w ((x.setCell ⟨R, 0, none⟩ p').setCell ⟨R, 1, none⟩ v) ∧
    ((x.setCell ⟨R, 0, none⟩ p').setCell ⟨R, 1, none⟩ v).cell? ⟨R, 0, none⟩ = some p' ∧ ((x.setCell ⟨R, 0, none⟩ p').setCell ⟨R, 1, none⟩ v).cell? ⟨R, 1, none⟩ = some v := by
  have e1 := cells_set0 (x := p') hR
  have e2 := cells_set (x := v) e1
  refine ⟨((hog.setCell hR).setCell e1).mono (by omega), ?_, (cell_of_two e2).1, (cell_of_two e2).2.1⟩
  exact ((h0.trans (h1.mono hB)).setCell (p := ⟨R, 0, none⟩) hRw _).setCell (p := ⟨R, 1, none⟩) hRw _

/-- What is known in a round, behind the call that makes a clause. -/
structure Made (G : Nat) (W x : World) (n : Int) (gv : Value) (css : List (List Int)) (vs : List Value) (u : Value) (c : List Int) : Prop where
  blk : x.heap[G]? = some (.cells #[.int .i64 n, gv] 36 (0, 0))
  row : x.ownsRow (G + 1) 22 1 gv css.length vs
  each : ∀ i (h : i < css.length), ∃ u, vs[i]? = some u ∧ Own (G + 1) x u css[i]
  own : Own (G + 1) x u c
  bel : Below G W x

theorem made_of {G : Nat} {W x y : World} {n : Int} {gv : Value} {css : List (List Int)} {vs : List Value} {u : Value} {c : List Int}
    (h1 : x.heap[G]? = some (.cells #[.int .i64 n, gv] 36 (0, 0))) (h2 : x.ownsRow (G + 1) 22 1 gv css.length vs) (h3 : ∀ i (h : i < css.length), ∃ u, vs[i]? = some u ∧ Own (G + 1) x u css[i])
    (h4 : Own x.heap.size y u c) (h5 : Below G W x) (h6 : Below x.heap.size x y) : Made G W y n gv css vs u c := by
  have hlt := lt_of_block h1
  refine ⟨by rw [h6.block G hlt]; exact h1, ?_, fun i hi => ?_, h4.mono hlt, h5.trans (h6.mono (Nat.le_of_lt hlt))⟩
  · exact World.ownsRow.kept h2 (row := none) ⟨h6.os, h6.tape, h6.output, h6.size, fun k hk _ => h6.block k hk⟩ (by cases gv.ownBlock <;> simp)
  · obtain ⟨v, e, ho⟩ := h3 i hi
    exact ⟨v, e, ho.below h6⟩

theorem Made.below {G : Nat} {W x y : World} {n : Int} {gv : Value} {css : List (List Int)} {vs : List Value} {u : Value} {c : List Int} (h : Made G W x n gv css vs u c) (hb : Below x.heap.size x y) : Made G W y n gv css vs u c := by
  have hlt := lt_of_block h.blk
  refine ⟨by rw [hb.block G hlt]; exact h.blk, ?_, fun i hi => ?_, h.own.below hb, h.bel.trans (hb.mono (Nat.le_of_lt hlt))⟩
  · exact World.ownsRow.kept h.row (row := none) ⟨hb.os, hb.tape, hb.output, hb.size, fun k hk _ => hb.block k hk⟩ (by cases gv.ownBlock <;> simp)
  · obtain ⟨v, e, ho⟩ := h.each i hi
    exact ⟨v, e, ho.below hb⟩

/-- The round's end: the clause is appended, and the slice is stored. -/
theorem Made.stored {G : Nat} {W x y : World} {n : Int} {gv v' : Value} {css : List (List Int)} {vs : List Value} {u : Value} {c : List Int} (h : Made G W x n gv css vs u c)
    (h3 : y.ownsRow (G + 1) 22 1 v' (css.length + 1) (vs ++ [u])) (hg : x.grownBy y gv.ownBlock) :
    (y.setCell ⟨G, 1, none⟩ v').heap[G]? = some (.cells #[.int .i64 n, v'] 36 (0, 0)) ∧ OG (G + 1) (y.setCell ⟨G, 1, none⟩ v') v' (css ++ [c]) ∧ Below G W (y.setCell ⟨G, 1, none⟩ v') ∧ y.cell? ⟨G, 1, none⟩ = some gv ∧ y.frozen? ⟨G, 1, none⟩ = false := by
  have hlt := lt_of_block h.blk
  have hne : some G ≠ gv.ownBlock := by
    intro e
    obtain ⟨cur, hc⟩ := own_block h.row e.symm
    rw [h.blk] at hc
    simp at hc
  have hG : y.heap[G]? = some (.cells #[.int .i64 n, gv] 36 (0, 0)) := by rw [hg.block G hlt hne]; exact h.blk
  refine ⟨cells_set hG, (OG.snoc h.row h.each h.own h3 hg).setCell hG, ?_, (cell_of_two hG).2.1, (cell_of_two hG).2.2.2⟩
  refine Below.setCell (h.bel.grown hg (by have := h.bel.size; omega) (fun k hk => ?_)) (Nat.le_refl _) _
  exact Nat.le_of_succ_le (h.row.lt k hk).1

set_option maxHeartbeats 4000000 in
theorem refGiven_any (a : Option Addr) (cap : Nat) (n l nl : Int) (hnl : IntKind.i64.wrap (-l) = nl) (css : List (List Int)) (w : World) (hg : Grid w a css) (hl : css.length ≤ 300) (h5 : ∀ c ∈ css, c.length ≤ 5000) :
    Calls Try.prog 32 #[.agg #[.int .i64 n, .slice a css.length cap], .int .i64 l] w fun e w' => ∃ v, e = .returned (.agg #[.int .i64 n, v]) ∧ OG w.heap.size w' v (given css l nl) ∧ Below w.heap.size w w' := by
  obtain ⟨i0, hi, hz0, hz1, hz2⟩ := info_parts Try.info22
  have hbW := below_two w (.cells #[.int .i64 n, .slice a css.length cap] 36) (.cells #[.int .i64 0, .slice none 0 0] 36)
  have hg' := hg.below hbW
  clear hg
  go_enter Try.func32, Try.ntmps32
  go_wp2
  have hsz : ((w.alloc (.cells #[.int .i64 n, .slice a css.length cap] 36)).alloc (.cells #[.int .i64 0, .slice none 0 0] 36)).heap.size = w.heap.size + 1 + 1 := by simp
  have hst : (((w.alloc (.cells #[.int .i64 n, .slice a css.length cap] 36)).alloc (.cells #[.int .i64 0, .slice none 0 0] 36)).alloc (.cells #[.int .i64 n, .slice none 0 0] 36)).heap[w.heap.size + 1 + 1]? = some (.cells #[.int .i64 n, .slice none 0 0] 36 (0, 0)) := by
    rw [← hsz]; exact heap_alloc_new _ _
  have hst2 := ((Below.refl (w.heap.size + 1 + 1) ((w.alloc (.cells #[.int .i64 n, .slice a css.length cap] 36)).alloc (.cells #[.int .i64 0, .slice none 0 0] 36))).alloc (by rw [hsz]; exact Nat.le_refl _) (.cells #[.int .i64 n, .slice none 0 0] 36))
  have HF0 := hide (fun x (h : Below (w.heap.size + 2) ((w.alloc (.cells #[.int .i64 n, .slice a css.length cap] 36)).alloc (.cells #[.int .i64 0, .slice none 0 0] 36)) x) => two_boxes (w := w) h)
  have HF1 := hide (fun x (h : Below (w.heap.size + 2) ((w.alloc (.cells #[.int .i64 n, .slice a css.length cap] 36)).alloc (.cells #[.int .i64 0, .slice none 0 0] 36)) x) => two_free (w := w) h)
  generalize hWW : (w.alloc (.cells #[.int .i64 n, .slice a css.length cap] 36)).alloc (.cells #[.int .i64 0, .slice none 0 0] 36) = W at *
  have HB := hide hbW
  have HSZ := hide hsz
  have HST := hide hst
  have HST2 := hide hst2
  clear hWW hbW hsz hst hst2
  go_loopw [6] (fun i wr => ∃ (k : Nat) (gv : Value), k ≤ css.length ∧ i = .int .i64 k ∧ wr.heap[w.heap.size + 1 + 1]? = some (.cells #[.int .i64 n, gv] 36 (0, 0)) ∧ OG (w.heap.size + 1 + 1 + 1) wr gv (given (css.take k) l nl) ∧ Below (w.heap.size + 1 + 1) W wr) (fun i _ => css.length - (intOf i).toNat)
  case atStart => exact ⟨0, _, Nat.zero_le _, rfl, HST.out, OG.none _ _, HST2.out⟩
  case round =>
    obtain ⟨k, gv, hk, rfl, hG, hog, hbel⟩ := hrel
    obtain ⟨fc0, fc1, fc2, fc3⟩ := HF0.out wr hbel
    obtain ⟨fg0, fg1, fg2, fg3⟩ := cell_of_two hG
    have HG := hide hG
    have HOG := hide hog
    have HBEL := hide hbel
    clear hG hog hbel
    by_cases hlt : k < css.length
    · have hbelW : Below W.heap.size W wr := by rw [HSZ.out]; exact HBEL.out
      obtain ⟨b, off, ai, ci, rfl, hb, hc, hr, hm⟩ := (hg'.below hbelW) k hlt
      have hck5 := h5 css[k] (List.getElem_mem hlt)
      have CH := has_any ai ci css[k] l wr hr hm
      have HHIT := hide (@given_hit css l nl k hlt)
      have HMISS := hide (@given_miss css l nl k hlt)
      have hgl : (given (css.take k) l nl).length ≤ k := Nat.le_trans (given_len _ _ _) (List.length_take_le _ _)
      have HR := hide hr
      generalize hcc : css[k] = c at *
      generalize hgg : given (css.take k) l nl = gs at *
      clear hg' hr hcc hgg hbelW
      unfold maxLen at hm
      have hki : (k : Int) < css.length := by omega
      by_cases hh : hasB c l = true
      · rw [hh] at CH
        replace CH := hide CH
        have HE := hide (HHIT.out hh)
        clear hh HHIT HMISS fg0 fg1 fg2 fg3
        go_wp2_with fail
        refine (unhide CH).mono ?_
        rintro e w0 ⟨rfl, hw0⟩
        subst w0
        go_wp2
        go_roundw
        case rel => exact ⟨k + 1, gv, by omega, by go_num, HG.out, by rw [HE.out]; exact HOG.out, HBEL.out⟩
        case measure => simp [intOf]; omega
      · have hh' : hasB c l = false := by simpa using hh
        rw [hh'] at CH
        replace CH := hide CH
        have HE := hide (HMISS.out hh')
        clear hh hh' HHIT HMISS
        obtain ⟨vs, hrow, heach⟩ := HOG.out
        have CW : Calls Try.prog 29 #[.slice ai c.length ci, .int .i64 nl] wr.drew fun e w2 => ∃ g2 cap2, e = .returned (.slice (some ⟨g2, 0, none⟩) (wo c nl).length cap2) ∧
            Made (w.heap.size + 1 + 1) W w2 n gv gs vs (.slice (some ⟨g2, 0, none⟩) (wo c nl).length cap2) (wo c nl) := by
          refine (refWithout_any ai ci c nl wr.drew HR.out hck5).mono ?_
          rintro e w2 ⟨v2, rfl, ho, hn, hbl⟩
          have hM := made_of (x := wr.drew) HG.out hrow heach ho HBEL.out.drew hbl
          obtain ⟨g2, cap2, rfl, _⟩ := ho.src hn
          exact ⟨g2, cap2, rfl, hM⟩
        replace CW := hide CW
        clear hrow heach HOG HR
        go_wp2_with fail
        refine (unhide CH).mono ?_
        rintro e w0 ⟨rfl, hw0⟩
        subst w0
        clear CH
        go_wp2_with fail
        go_region_law (first
          | (refine step_append_lies _ (by rfl) (.tmp 26) (.tmp 35) 34 (by rfl) (w.heap.size + 1 + 1 + 1) 22 i0 (.slice none 0 0) 1 24 Try.underlying34 hi hz0 hz1 hz2 rfl (by decide) gv gs.length vs (by rfl) hM2.row ⟨w2.heap.size, 0, none⟩ 1 1 [.slice (some ⟨g2, 0, none⟩) (wo c nl).length cap2] (by rfl) (by rfl) (World.news_of_block (cs := #[.slice (some ⟨g2, 0, none⟩) (wo c nl).length cap2]) (t := 22) (fr := (0, 0)) (heap_alloc_new w2 _)) (by simp [Value.oneCell']) (by decide) (by unfold maxLen; omega) (by omega) (by simp; omega) (w2.heap.size + 1) (by simp) ?_; intro g3 cap3 w3 hown3 hgrow3 hat3 hlt3; obtain ⟨s1, s2, s3, s4, s5⟩ := Made.stored hM2 hown3 hgrow3)
          | (go_simp; go_at_call 29; refine (unhide CW).mono ?_; rintro e w2 ⟨g2, cap2, rfl, hM⟩; have hM2 := hM.below (below_alloc w2 (.cells #[.slice (some ⟨g2, 0, none⟩) (wo c nl).length cap2] 22)); have hGlt := lt_of_block hM.blk; obtain ⟨t0, t1, t2, t3⟩ := cell_of_two hM.blk; obtain ⟨u0, u1, u2, u3⟩ := cell_of_two hM2.blk))
        all_goals
          clear s4 s5 hat3 hlt3 hown3 hgrow3 hM2 hM
          go_wp2
          go_roundw
          case rel => exact ⟨k + 1, _, by omega, by go_num, s1, by rw [HE.out]; exact s2, s3⟩
          case measure => simp [intOf]; omega
    · have HE : Hid (css.take k = css) := List.take_of_length_le (by omega)
      obtain ⟨z0, z1, z2⟩ := HF1.out wr HBEL.out
      have HZ2 := hide z2
      clear z2 hg'
      obtain ⟨ag, cg, rfl, hgrid, hlen⟩ := HOG.out.grid
      have HOG2 := HOG.out
      rw [HE.out] at HOG2
      have HL : Hid (given (css.take k) l nl = given css l nl) := by show _ = _; rw [HE.out]
      generalize given (css.take k) l nl = gs at *
      replace HOG2 := hide HOG2
      clear hgrid
      obtain ⟨y1, y2, y3, y4⟩ := given_end (p' := .int .i64 n) HB.out HBEL.out HZ2.out HOG.out (by omega) (by omega)
      go_wp2
      exact bodyPost_ret (v := .agg #[.int .i64 n, .slice ag gs.length cg]) (by simp [results, Try.results32, go_sem, y3, y4]) rfl ⟨_, rfl, by rw [← HL.out]; exact y1, y2⟩

end Go.Proofs.Ytiddcpemckifmaa
