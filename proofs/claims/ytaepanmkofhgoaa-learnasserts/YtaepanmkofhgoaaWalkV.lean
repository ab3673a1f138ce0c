/- Contract: what was learned, shortened. -/
import Derived.Test.YtaepanmkofhgoaaWalkU
set_option linter.unusedVariables false
set_option linter.unusedSimpArgs false
namespace Go.Proofs.Ytaepanmkofhgoaa
open Go.RowKit

theorem keep_zero {ts : List As} {L : List Int} : keepB ts L 0 = true := by simp [keepB]
theorem keep_succ {ts : List As} {L : List Int} {k : Nat} (h : k < L.length) (h0 : k ≠ 0) : keepB ts L k = !idleAt ts L (pl ts L[k]) := by
  unfold keepB; rw [decide_eq_false h0, getD_at h]; rfl

theorem fit_of_fal {ts : List As} (T : Tr ts) {L : List Int} (hL : ∀ l ∈ L, falB ts l = true) : Fit L := fun l hl => by have := litB_true.1 (fal_lit T.vl (hL l hl)); omega

set_option maxHeartbeats 8000000 in
set_option maxRecDepth 100000 in
theorem shorten_any (w : World) (a b : Option Addr) (ca cb : Nat) (ts : List As) (L : List Int) (h : Trl w a ts) (h20 : ts.length ≤ 20) (hm : mayT ts = true) (hr : Row w b L) (hl : L.length ≤ 7000) (hL : ∀ l ∈ L, falB ts l = true) (hn : L.Nodup) :
    Calls Try.prog 15 #[.slice a ts.length ca, .slice b L.length cb] w fun e w' => TurnP w w' (shortL ts L) e := by
  obtain ⟨i0, hi, hz0, hz1, hz2⟩ := info_parts Try.info3
  have CR := hide (read_any w a ca ts h h20)
  go_enter Try.func15, Try.ntmps15
  go_wp2_with fail
  refine (unhide CR).mono ?_
  rintro e w1 (⟨hm2, rfl, hb⟩ | ⟨pb, x, hm2, rfl, R⟩)
  · rw [hm] at hm2; cases hm2
  · have T := Tr.of R.pth.ok
    have CF := areFalse_any w1 pb ts ts.length x b cb L R.pth (hr.below R.bel) (by unfold maxLen; omega) (fit_of_fal T hL)
    have eall : L.all (fun l => falB (ts.take ts.length) l) = true := by rw [List.take_length, List.all_eq_true]; exact hL
    rw [eall] at CF
    replace CF := hide CF
    have CI := hide (fun n => idle_any (w1.drewN n) pb ts x b cb L (R.pth.drewN n) (hr.below (below_drewN R.bel n)) hl hL)
    have hbw := R.bel
    have HP1 := hide R.pth
    clear CR hm hm2 eall R
    go_upto_region 5 with (first
      | (go_at_call 36; refine (unhide CF).mono ?_; rintro e w0 ⟨rfl, n, hw0⟩; subst w0)
      | (go_at_call 38; refine (unhide CI _).mono ?_; rintro e w3 ⟨g, rfl, hgl, hgc, hb3⟩))
    have hb13 : Below w1.heap.size w1 w3 := (below_drew w1 n).trans hb3
    have hb03 : Below w.heap.size w w3 := hbw.trans (hb13.mono hbw.size)
    have HP3 := hide (HP1.out.below hb13)
    clear CF CI HP1 hb3 hb13
    go_upto_region 7 with (at_make; refine wpList_make_own _ rfl _ _ 23 rfl w3.heap.size 3 i0 (.int .i64 0) 1 Try.underlying23 hi hz0 hz1 .i64 .i64 _ L.length rfl rfl rfl (by rw [hz2]; omega) (by unfold maxLen; omega) (Nat.le_refl _) ?_; intro w4 hown4 hgrow4)
    go_loopw [8, 34] (fun v i wr => ∃ k : Nat, k ≤ L.length ∧ i = .int .i64 k ∧ Own w3.heap.size wr v (shortTo ts L k) ∧ v ≠ .slice none 0 0 ∧ Below w3.heap.size w3 wr) (fun _ i _ => L.length - (intOf i).toNat)
    case atStart => exact ⟨0, Nat.zero_le _, rfl, hown4, by simp, (Below.refl _ _).grown hgrow4 (Nat.le_refl _) (by intro k h; cases h)⟩
    case round =>
      clear hown4 hgrow4
      obtain ⟨k, hk, rfl, hown, hnn, hbel⟩ := hrel
      by_cases hlt : k < L.length
      · obtain ⟨b1, off1, rfl, hbl, hc⟩ := hr k hlt
        have hb0r : Below w.heap.size w wr := hb03.trans (hbel.mono hb03.size)
        have hc' := (hb0r.cell (p := ⟨b1, off1 + k, none⟩) hbl).trans hc
        obtain ⟨b2, off2, e2, hbl2, hd⟩ := hr 0 (by omega)
        cases e2
        have hd' := (hb0r.cell (p := ⟨b1, off1 + 0, none⟩) hbl2).trans hd
        have hsl := short_len ts L k
        have hL0 : (0 : Int) < L.length := by omega
        by_cases hk0 : k = 0
        · subst hk0
          have HY := hide (short_yes (ts := ts) (L := L) keep_zero)
          rw [getD_at hlt] at HY
          have hq : (L[0] == L[0]) = true := by simp
          clear hr hc hd hbl hbl2 HP3 hn
          simp only [Nat.add_zero] at hc' hd'
          go_wp2_with (at_builtin; refine wpList_append_own _ rfl _ _ 23 rfl w3.heap.size 3 i0 (.int .i64 0) 1 8 Try.underlying23 hi hz0 hz1 hz2 rfl (by decide) _ _ _ rfl (hown.alloc _) ⟨wr.heap.size, 0, none⟩ 1 1 [.int .i64 L[0]] rfl rfl (cell_one_new _ _ _) (fun x hx => by simp at hx; subst hx; rfl) (by unfold maxLen; omega) (by omega) (by have := hbel.size; simp; omega) ?_; intro v' w5 hown5 hgrow5 hnil5)
          have hnn5 : v' ≠ .slice none 0 0 := fun h => absurd (hnil5.1 h).2 (by decide)
          have hown6 := own_snoc hown5 HY.out
          have hbel5 := ((hbel.alloc hbel.size (.cells #[.int .i64 L[0]] 3)).grown hgrow5 (by have := hbel.size; simp; omega) (fun g hg => (hown.lt g hg).1))
          clear hown5 hgrow5 hnil5
          go_wp2
          go_roundw
          case rel => exact ⟨0 + 1, by omega, by go_num, hown6, hnn5, hbel5⟩
          case measure => simp [intOf]; omega
        · have hne : (L[k] == L[0]) = false := by
            have := List.pairwise_iff_getElem.1 hn 0 k (by omega) hlt (by omega)
            simpa using fun e => this e.symm
          have hf := hL _ (List.getElem_mem hlt)
          have hl2 := litB_true.1 (fal_lit T.vl hf)
          have CP := place_any wr pb ts ts.length x L[k] (HP3.out.below hbel)
          rw [List.take_length, varW_lit hl2.2.1 hl2.2.2, (T.fal hf).2.2] at CP
          replace CP := hide CP
          have hj := (T.fal hf).1
          have hgi := (hbel.cell (p := ⟨g, pl ts L[k], none⟩) hgl).trans (hgc _ hj)
          have HK := hide (keep_succ (ts := ts) hlt hk0)
          simp only [Nat.add_zero] at hd'
          have hj' : ((pl ts L[k] : Nat) : Int) < ts.length := by omega
          clear hr hc hd hbl hbl2 HP3 hn hf hl2 T hgc
          generalize hid : idleAt ts L (pl ts L[k]) = id at *
          generalize pl ts L[k] = j at *
          cases id
          · have HY := hide (short_yes (ts := ts) (L := L) HK.out)
            rw [getD_at hlt] at HY
            clear HK hid
            go_wp2_with (first
              | (go_at_call 39; refine (unhide CP).mono ?_; rintro e w0 ⟨rfl, m, hw0⟩; subst w0)
              | (at_builtin; refine wpList_append_own _ rfl _ _ 23 rfl w3.heap.size 3 i0 (.int .i64 0) 1 8 Try.underlying23 hi hz0 hz1 hz2 rfl (by decide) _ _ _ rfl (Own.alloc (hown.below (below_drew wr m)) _) ⟨wr.heap.size, 0, none⟩ 1 1 [.int .i64 L[k]] rfl rfl (cell_one_new (wr.drewN m) _ _) (fun x hx => by simp at hx; subst hx; rfl) (by unfold maxLen; omega) (by omega) (by have := hbel.size; simp; omega) ?_; intro v' w5 hown5 hgrow5 hnil5))
            have hnn5 : v' ≠ .slice none 0 0 := fun h => absurd (hnil5.1 h).2 (by decide)
            have hown6 := own_snoc hown5 HY.out
            have hbm := below_drewN hbel m
            have hbel5 := ((hbm.alloc hbm.size (.cells #[.int .i64 L[k]] 3)).grown hgrow5 (by have := hbel.size; simp; omega) (fun g hg => ((hown.below (below_drew wr m)).lt g hg).1))
            clear hown5 hgrow5 hnil5
            go_wp2
            go_roundw
            case rel => exact ⟨k + 1, by omega, by go_num, hown6, hnn5, hbel5⟩
            case measure => simp [intOf]; omega
          · have HY := hide (short_no (ts := ts) (L := L) HK.out)
            clear HK hid
            go_wp2_with (go_at_call 39; refine (unhide CP).mono ?_; rintro e w0 ⟨rfl, m, hw0⟩; subst w0)
            go_roundw
            case rel => exact ⟨k + 1, by omega, by go_num, by rw [HY.out]; exact hown.below (below_drew wr m), hnn, below_drewN hbel m⟩
            case measure => simp [intOf]; omega
      · have hz : k = L.length := by omega
        subst hz
        clear hr HP3
        go_wp2
        go_ret
        exact ⟨_, rfl, hown.mono hb03.size, hnn, hb03.trans (hbel.mono hb03.size)⟩

end Go.Proofs.Ytaepanmkofhgoaa
