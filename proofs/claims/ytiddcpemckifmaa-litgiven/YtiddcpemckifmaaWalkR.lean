/- Contract: a formula where a literal is true (the program's own). -/
import Derived.Test.YtiddcpemckifmaaWalkQ
set_option linter.unusedVariables false
set_option linter.unusedSimpArgs false
namespace Go.Proofs.Ytiddcpemckifmaa
open Go.RowKit

attribute [local go_sem ↓] Go.wp_at_zero Go.wp_at_succ

set_option maxHeartbeats 1000000 in
theorem litGiven_no (a : Option Addr) (cap : Nat) (n l : Int) (css : List (List Int)) (w : World) (hg : Grid w a css) (hl : css.length ≤ maxLen) (h : cnfB n css = false) :
    Calls Try.prog 30 #[.agg #[.int .i64 n, .slice a css.length cap], .int .i64 l] w fun e w' => e = .returned (.agg #[.int .i64 0, .slice none 0 0]) ∧ Below w.heap.size w w' := by
  have hbW := below_two w (.cells #[.int .i64 n, .slice a css.length cap] 36) (.cells #[.int .i64 0, .slice none 0 0] 36)
  have C1 := checkCnf_any a cap n css _ (hg.below hbW) hl
  rw [h] at C1
  replace C1 := hide C1
  have HB := hide hbW
  clear hbW hg h hl
  go_enter Try.func30, Try.ntmps30
  go_wp2
  go_step3
  go_wp2_with fail
  refine (unhide C1).mono ?_
  rintro e w1 ⟨rfl, hb1⟩
  simp only [errI, Bool.false_eq_true, if_false]
  have hb2 := hb1.mono (B' := w.heap.size + 2) (by simp)
  obtain ⟨c0, c1, c2, c3⟩ := two_boxes (w := w) hb2
  obtain ⟨z0, z1, z2⟩ := two_free (w := w) hb2
  have hbel := HB.out.trans (hb1.mono (by simp; omega))
  obtain ⟨y1, y2, y3, y4⟩ := given_end (B := w.heap.size) (p' := .int .i64 0) hbel (Below.refl _ w1) z2 (OG.none (w.heap.size + 1) w1) (by omega) (Nat.le_refl _)
  clear z2 hb1 hb2 hbel y1
  go_wp2
  (try rw [Exit.noGoto_ret])
  exact bodyPost_ret (v := .agg #[.int .i64 0, .slice none 0 0]) (by simp [results, Try.results30, go_sem, y3, y4]) rfl ⟨rfl, y2⟩

set_option maxHeartbeats 4000000 in
theorem litGiven_yes (a : Option Addr) (cap : Nat) (n l nl : Int) (hnl : IntKind.i64.wrap (-l) = nl) (css : List (List Int)) (w : World) (hg : Grid w a css) (hl : css.length ≤ 300) (h5 : ∀ c ∈ css, c.length ≤ 5000) (h : cnfB n css = true) :
    Calls Try.prog 30 #[.agg #[.int .i64 n, .slice a css.length cap], .int .i64 l] w fun e w' => ∃ v, e = .returned (.agg #[.int .i64 n, v]) ∧ OG w.heap.size w' v (given css l nl) ∧ Below w.heap.size w w' := by
  obtain ⟨i0, hi, hz0, hz1, hz2⟩ := info_parts Try.info22
  have hbW := below_two w (.cells #[.int .i64 n, .slice a css.length cap] 36) (.cells #[.int .i64 0, .slice none 0 0] 36)
  have C1 := checkCnf_any a cap n css _ (hg.below hbW) (by unfold maxLen; omega)
  rw [h] at C1
  replace C1 := hide C1
  have HB := hide hbW
  have HGR := hide hg
  clear hbW hg h
  go_enter Try.func30, Try.ntmps30
  go_wp2
  go_step3
  go_wp2_with fail
  refine (unhide C1).mono ?_
  rintro e w1 ⟨rfl, hb1⟩
  simp only [errI, if_true]
  have hb2 := hb1.mono (B' := w.heap.size + 2) (by simp)
  obtain ⟨c0, c1, c2, c3⟩ := two_boxes (w := w) hb2
  have HF1 := hide (two_free (w := w) hb2)
  have hbel := HB.out.trans (hb1.mono (by simp; omega))
  have hsz : w.heap.size + 1 + 1 ≤ w1.heap.size := by have := hb1.size; simpa using this
  have cA : (w1.alloc (.cells #[.int .i64 n, .slice none 0 0] 36)).cell? ⟨w.heap.size, 1, none⟩ = some (.slice a css.length cap) := by rw [World.cell?_alloc_past _ _ _ (by show w.heap.size < w1.heap.size; omega)]; exact c1
  have HBE := hide hbel
  have HG1 := hide (HGR.out.below hbel)
  have hst := heap_alloc_new w1 (.cells #[.int .i64 n, .slice none 0 0] 36)
  have HST := hide hst
  have HST2 := hide ((Below.refl w1.heap.size w1).alloc (Nat.le_refl _) (.cells #[.int .i64 n, .slice none 0 0] 36))
  clear hb1 hb2 hbel C1 HB HGR hst
  go_wp2
  go_step3
  go_wp2
  go_loopw [20] (fun i wr => ∃ (k : Nat) (gv : Value), k ≤ css.length ∧ i = .int .i64 k ∧ wr.heap[w1.heap.size]? = some (.cells #[.int .i64 n, gv] 36 (0, 0)) ∧ OG (w1.heap.size + 1) wr gv (given (css.take k) l nl) ∧ Below w1.heap.size w1 wr) (fun i _ => css.length - (intOf i).toNat)
  case atStart => exact ⟨0, _, Nat.zero_le _, rfl, HST.out, OG.none _ _, HST2.out⟩
  case round =>
    clear HST HST2
    obtain ⟨k, gv, hk, rfl, hG, hog, hbel⟩ := hrel
    obtain ⟨fg0, fg1, fg2, fg3⟩ := cell_of_two hG
    have HG := hide hG
    have HOG := hide hog
    have HBEL := hide hbel
    clear hG hog hbel c0 c1 c2 c3 cA
    by_cases hlt : k < css.length
    · obtain ⟨b, off, ai, ci, rfl, hb, hc, hr, hm⟩ := (HG1.out.below HBEL.out) k hlt
      have hck5 := h5 css[k] (List.getElem_mem hlt)
      have HHIT := hide (@given_hit css l nl k hlt)
      have HMISS := hide (@given_miss css l nl k hlt)
      have hgl : (given (css.take k) l nl).length ≤ k := Nat.le_trans (given_len _ _ _) (List.length_take_le _ _)
      have HR := hide hr
      generalize hcc : css[k] = c at *
      generalize hgg : given (css.take k) l nl = gs at *
      clear hr hcc hgg
      unfold maxLen at hm
      have hki : (k : Int) < css.length := by omega
      go_wp2
      go_loop [26] (fun j => ∃ p : Nat, p ≤ c.length ∧ j = .int .i64 p ∧ (c.take p).any (fun x => x == l) = false) (fun j => c.length - (intOf j).toNat)
      case atStart => exact ⟨0, Nat.zero_le _, rfl, rfl⟩
      case round =>
        obtain ⟨p, hp, rfl, hno2⟩ := hrel
        have HN2 := hide hno2
        clear hno2
        by_cases hplt : p < c.length
        · obtain ⟨b2, off2, rfl, hb2, hc2⟩ := HR.out p hplt
          have HAS := hide (any_take_snoc (fun x => x == l) c p hplt HN2.out)
          have HAY := hide (any_true_at (fun x => x == l) c p hplt)
          have hpi : (p : Int) < c.length := by omega
          by_cases h6 : c[p] = l
          · have h6' : (c[p] == l) = true := by simp [h6]
            have HF := hide (HHIT.out (HAY.out h6'))
            clear HAS HAY h6 HHIT HMISS
            go_wp2
            go_roundw
            case rel => exact ⟨k + 1, gv, by omega, by go_num, HG.out, by rw [HF.out]; exact HOG.out, HBEL.out⟩
            case measure => simp [intOf]; omega
          · have h6' : (c[p] == l) = false := by simp [h6]
            have HF := hide (HAS.out h6')
            clear HAS HAY h6
            go_wp2
            go_round
            case rel => exact ⟨p + 1, by omega, by go_num, HF.out⟩
            case measure => simp [intOf]; omega
        · have HE := hide (HMISS.out (any_of_take (p := fun x => x == l) (xs := c) (k := p) (by omega) HN2.out))
          obtain ⟨vs, hrow, heach⟩ := HOG.out
          have CW : Calls Try.prog 46 #[.slice ai c.length ci, .int .i64 nl] wr.drew fun e w2 => ∃ g2 cap2, e = .returned (.slice (some ⟨g2, 0, none⟩) (wo c nl).length cap2) ∧
              Made w1.heap.size w1 w2 n gv gs vs (.slice (some ⟨g2, 0, none⟩) (wo c nl).length cap2) (wo c nl) := by
            refine (litWithout_any ai ci c nl wr.drew HR.out hck5).mono ?_
            rintro e w2 ⟨v2, rfl, ho, hn, hbl⟩
            have hM := made_of (x := wr.drew) HG.out hrow heach ho HBEL.out.drew hbl
            obtain ⟨g2, cap2, rfl, _⟩ := ho.src hn
            exact ⟨g2, cap2, rfl, hM⟩
          replace CW := hide CW
          clear hrow heach HOG HR HN2 HHIT HMISS
          go_wp2_with fail
          go_region_law (first
            | (refine step_append_lies _ (by rfl) (.tmp 35) (.tmp 40) 34 (by rfl) (w1.heap.size + 1) 22 i0 (.slice none 0 0) 1 24 Try.underlying34 hi hz0 hz1 hz2 rfl (by decide) gv gs.length vs (by rfl) hM2.row ⟨w2.heap.size, 0, none⟩ 1 1 [.slice (some ⟨g2, 0, none⟩) (wo c nl).length cap2] (by rfl) (by rfl) (World.news_of_block (cs := #[.slice (some ⟨g2, 0, none⟩) (wo c nl).length cap2]) (t := 22) (fr := (0, 0)) (heap_alloc_new w2 _)) (by simp [Value.oneCell']) (by decide) (by unfold maxLen; omega) (by omega) (by simp; omega) (w2.heap.size + 1) (by simp) ?_; intro g3 cap3 w3 hown3 hgrow3 hat3 hlt3; obtain ⟨s1, s2, s3, s4, s5⟩ := Made.stored hM2 hown3 hgrow3)
            | (go_simp; go_at_call 46; refine (unhide CW).mono ?_; rintro e w2 ⟨g2, cap2, rfl, hM⟩; have hM2 := hM.below (below_alloc w2 (.cells #[.slice (some ⟨g2, 0, none⟩) (wo c nl).length cap2] 22)); have hGlt := lt_of_block hM.blk; obtain ⟨t0, t1, t2, t3⟩ := cell_of_two hM.blk; obtain ⟨u0, u1, u2, u3⟩ := cell_of_two hM2.blk))
          all_goals
            clear s4 s5 hat3 hlt3 hown3 hgrow3 hM2 hM
            go_wp2
            go_roundw
            case rel => exact ⟨k + 1, _, by omega, by go_num, s1, by rw [HE.out]; exact s2, s3⟩
            case measure => simp [intOf]; omega
    · have HE : Hid (css.take k = css) := List.take_of_length_le (by omega)
      have z2 := HF1.out.2.2
      rw [← HBEL.out.block _ (by omega)] at z2
      obtain ⟨c2, c3, z0, z1⟩ := cell_of_two z2
      have HZ2 := hide z2
      clear z2
      obtain ⟨ag, cg, rfl, hgrid, hlen⟩ := HOG.out.grid
      have HL : Hid (given (css.take k) l nl = given css l nl) := by show _ = _; rw [HE.out]
      generalize given (css.take k) l nl = gs at *
      clear hgrid
      obtain ⟨y1, y2, y3, y4⟩ := given_end (p' := .int .i64 n) HBE.out HBEL.out HZ2.out HOG.out (by omega) (by omega)
      go_wp2
      (try rw [Exit.noGoto_ret])
      exact bodyPost_ret (v := .agg #[.int .i64 n, .slice ag gs.length cg]) (by simp [results, Try.results30, go_sem, y3, y4]) rfl ⟨_, rfl, by rw [← HL.out]; exact y1, y2⟩

end Go.Proofs.Ytiddcpemckifmaa
