/- The law's play, walked. -/
import Derived.Test.YtjijikkcpnojcaaWalkY
set_option linter.unusedVariables false
set_option linter.unusedSimpArgs false
namespace Go.Proofs.Ytjijikkcpnojcaa
open Go.RowKit Go.Conc

set_option maxHeartbeats 8000000 in
set_option maxRecDepth 100000 in
theorem play_any (w : World) (al : Option Addr) (ca : Nat) (xs : List Int) (hr : Row w al xs) (hm : mayB xs = true) (aa : Option Addr) (cap : Nat) (l : List ActD) (hl : Acts w aa l) (hll : l.length ≤ maxLen) :
    ∃ q off, al = some ⟨q, off, none⟩ ∧ Calls Try.prog 9 #[.slice al xs.length ca, .slice aa l.length cap] w (PlayP w q off ca xs.length (roomF xs)) := by
  obtain ⟨q, off, rfl, hrm⟩ := row_rms hr hm
  refine ⟨q, off, rfl, ?_⟩
  obtain ⟨h1, h8, hrx⟩ := may_parts hm
  have hrl : ∀ i, i < xs.length → roomF xs i ≤ 4096 := fun i hi => (hrx i hi).2
  have HRL := hide hrl
  have HRM := hide hrm
  have GN : Hid (∀ W, Below w.heap.size w W → Calls Try.prog 7 #[.slice (some ⟨q, off, none⟩) xs.length ca] W fun e w' => ∃ p K kc ch, e = .returned (.tuple #[.pointer (some ⟨p, 0, none⟩), .int .i64 0]) ∧ Pu w' p K kc xs.length ch (roomF xs) (roomF xs) 0 ∧ Below W.heap.size W w' ∧ W.heap.size ≤ p ∧ ∀ i, i < xs.length → W.heap.size ≤ ch i) := by
    intro W hW
    refine (new_any W (some ⟨q, off, none⟩) ca xs (hr.below hW) (by unfold maxLen; omega)).mono ?_
    rintro e w' ⟨hb, h | ⟨_, p, K, kc, ch, h1, h2, h3, h4⟩⟩
    · exact absurd h.1 (by rw [hm]; decide)
    · exact ⟨p, K, kc, ch, h1, h2, hb, h3, h4⟩
  clear hr hm hrx hrl hrm
  generalize roomF xs = room at *
  generalize xs.length = N at *
  have HAC := hide hl
  unfold maxLen at hll
  clear hl
  obtain ⟨L, hL⟩ : ∃ L, L = l.length := ⟨_, rfl⟩
  rw [← hL] at hll ⊢
  have HL := hide hL
  clear hL
  obtain ⟨i0, hi, hz0, hz1, hz2⟩ := info_parts Try.info3
  go_enter Try.func9, Try.ntmps9
  go_upto_region 1 with fail
  refine forget (P := fun W => Code.wp Try.prog _ _ _ W) (fun W => Hid (Below w.heap.size w W) ∧ Hid (W.heap[w.heap.size]? = some (.cells #[.slice none 0 0, .slice none 0 0, .int .i64 0] 31))) ⟨(Below.refl _ _).alloc (Nat.le_refl _) _, heap_alloc_new w _⟩ ?_
  rintro W0 ⟨HW0, HY0⟩
  have hnews := (HRM.out.below HW0.out).news (.cells #[] 3)
  obtain ⟨Y, hYY⟩ : ∃ Y, Y = w.heap.size := ⟨_, rfl⟩
  have lY : Hid (w.heap.size ≤ Y) := by rw [hYY]; exact Nat.le_refl _
  rw [← hYY] at HY0 ⊢
  clear hYY
  go_cut [7] from 19 to 23 (fun x wx => ∃ X b cb, x = .pointer (some ⟨X, 0, none⟩) ∧ Hid (Bx2 w wx X Y q off ca b cb N 0) ∧ Hid (Blk wx b N cb room))
  case first =>
    go_wp2_with (at_builtin; refine wpList_append_lies _ rfl _ _ 22 rfl 0 3 i0 (.int .i64 0) 1 8 Try.underlying22 hi hz0 hz1 hz2 rfl (by decide) _ 0 [] rfl (own_none W0 3) ⟨q, off, none⟩ N ca _ rfl (by simp) hnews (by intro u hu; obtain ⟨i, _, rfl⟩ := List.mem_map.1 hu; rfl) (by omega) (by unfold maxLen; omega) (by omega) (Nat.zero_le _) (W0.heap.size + 1) (by simp) ?_; intro g1 cap1 w3 hown3 hgrow3 hat3 hlt3; simp only [Nat.zero_add, List.nil_append] at hown3)
    go_meet
    case rel =>
      obtain ⟨a1, a2⟩ := play_box (q := q) (off := off) (ca := ca) HW0.out HY0.out lY.out hgrow3 (blk_of_own hown3)
      exact ⟨_, g1, cap1, rfl, a1, a2⟩
  case rest =>
  obtain ⟨X, b, cb, rfl, HB, HK⟩ := hcut
  clear hnews hi hz0 hz1 hz2 HW0 HY0
  have GN1 := hide (unhide GN wc HB.out.bel)
  clear GN
  go_upto_region 5 with (first | (go_at_call 7; refine (unhide GN1).mono ?_; rintro e w2 ⟨p, K, kc, ch, rfl, hp2, hb2, lp, lc⟩))
  have HP0 := hide (play_begin HB.out HK.out HRM.out hp2 hb2 lp lc)
  clear hp2 hb2 lp lc HB HK GN1
  go_wp2
  go_loopw [10] (fun x W => ∃ (k b cb d nx : Nat) (left : Nat → Nat), k ≤ L ∧ k ≤ 60 ∧ x = .int .i64 (k : Int) ∧ Hid (Pl w W X Y p K kc N ch room left nx q off ca b cb d)) (fun x _ => 61 - (intOf x).toNat)
  case atStart => exact ⟨0, b, cb, 0, 0, room, Nat.zero_le _, Nat.zero_le _, rfl, HP0⟩
  case round =>
    clear HP0 b cb
    obtain ⟨k, b, cb, d, nx, left, hk1, hk2, rfl, HP⟩ := hrel
    by_cases hlt : k < L ∧ k < 60
    · obtain ⟨hlt1, hlt2⟩ := hlt
      obtain ⟨qa, offa, rfl, hq, a0, a1, a2⟩ := (HAC.out.below HP.out.bel) k (by rw [← HL.out]; exact hlt1)
      generalize (l[k]'(by rw [← HL.out]; exact hlt1)) = act at *
      obtain ⟨dd, kk, nn⟩ := act
      simp only at a0 a1 a2
      obtain ⟨b1, b2⟩ := act_box HP.out dd kk nn
      have HP1 := hide b1
      have HA1 := hide b2
      clear b1 b2
      go_upto_region 9 with fail
      refine forget (P := fun W => Code.wp Try.prog _ _ _ W) (fun W => Hid (Pl w W X Y p K kc N ch room left nx q off ca b cb d) ∧ Hid (Ab W wr.heap.size dd kk nn)) ⟨HP1, HA1⟩ ?_
      clear HP1 HA1 a0 a1 a2 hq HP
      generalize wr.heap.size = A
      rintro W1 ⟨HP1, HA1⟩
      have a0 := HA1.out.c0
      have a1 := HA1.out.c1
      have a2 := HA1.out.c2
      by_cases hd0 : dd = 0
      · subst hd0
        have GT := hide (take_all W1 p K kc N ch room left nx kk nn HP1.out.pu)
        have HN8 := hide HP1.out.pu.n8
        go_upto_region 16 with (first | (go_at_call 13; refine (unhide GT).mono ?_; rintro e w2 ⟨rfl, t⟩))
        have P2 := hide (HP1.out.prog t)
        have HA2 := hide (HA1.out.kp HP1.out.pu t.kp)
        have HLE := hide HP1.out.pu.le
        have HDN := hide HP1.out.dn
        clear t GT a0 a1 a2 HA1 HP1
        have a0 := HA2.out.c0
        have a1 := HA2.out.c1
        have a2 := HA2.out.c2
        cases hcn : cntB nn with
        | true =>
          have GR := turn_all w2 q off ca b cb N d room left false kk nn P2.out.rf HN8.out HLE.out HRL.out hcn
          obtain ⟨m, rfl, hm4⟩ := cntB_yes hcn
          have hsg : sgn false (m : Int) = -(m : Int) := rfl
          rw [hsg] at GR
          unfold rv at GR
          have GR := hide GR
          clear hcn hsg
          generalize codeF N room left false kk (m : Int) = c at *
          generalize leftF N room left false kk (m : Int) = left' at *
          have hcc : (c != c) = false := by simp
          have c0 := P2.out.c0
          have c1 := P2.out.c1
          have c2 := P2.out.c2
          go_wp2_with (first | (go_at_call 18; refine (unhide GR).mono ?_; rintro e w3 ⟨b', cb', rfl, hr3, hb3⟩; have P3 := P2.out.below hb3; have x0 := P3.c0; have x1 := P3.c1; have x2 := P3.c2; have y0 := P3.fx 0; have y1 := P3.fx 1; have y2 := P3.fx 2; unfold rv))
          all_goals
            have P4 := hide (P2.out.ref hb3 hr3 HDN.out)
            go_roundw
            case rel => exact ⟨k + 1, b', cb', d, nx, left', by omega, by omega, by go_num, P4⟩
            case measure => simp [intOf]; omega
        | false =>
          obtain ⟨e1, e2⟩ := codeF_no (N := N) (room := room) (left := left) (g := false) (k := kk) (n := nn) (.inr hcn)
          rw [e2] at P2
          rw [e1]
          have P4 := hide P2.out.done
          have hcn' : nn < 0 ∨ 4096 < nn := by
            simp [cntB] at hcn
            omega
          clear hcn e1 e2 P2
          by_cases hn0 : nn < 0
          · clear hcn'
            go_wp2
            all_goals
              go_roundw
              case rel => exact ⟨k + 1, b, cb, d, nx, left, by omega, by omega, by go_num, P4⟩
              case measure => simp [intOf]; omega
          · have hn4 : 4096 < nn := by omega
            clear hcn'
            go_wp2
            all_goals
              go_roundw
              case rel => exact ⟨k + 1, b, cb, d, nx, left, by omega, by omega, by go_num, P4⟩
              case measure => simp [intOf]; omega
      by_cases hd1 : dd = 1
      · subst hd1
        have GT := hide (give_all W1 p K kc N ch room left nx kk nn HP1.out.pu)
        have HN8 := hide HP1.out.pu.n8
        go_upto_region 16 with (first | (go_at_call 14; refine (unhide GT).mono ?_; rintro e w2 ⟨rfl, t⟩))
        have P2 := hide (HP1.out.prog t)
        have HA2 := hide (HA1.out.kp HP1.out.pu t.kp)
        have HLE := hide HP1.out.pu.le
        have HDN := hide HP1.out.dn
        clear t GT a0 a1 a2 HA1 HP1
        have a0 := HA2.out.c0
        have a1 := HA2.out.c1
        have a2 := HA2.out.c2
        cases hcn : cntB nn with
        | true =>
          have GR := turn_all w2 q off ca b cb N d room left true kk nn P2.out.rf HN8.out HLE.out HRL.out hcn
          obtain ⟨m, rfl, hm4⟩ := cntB_yes hcn
          have hsg : sgn true (m : Int) = (m : Int) := rfl
          rw [hsg] at GR
          unfold rv at GR
          have GR := hide GR
          clear hcn hsg
          generalize codeF N room left true kk (m : Int) = c at *
          generalize leftF N room left true kk (m : Int) = left' at *
          have hcc : (c != c) = false := by simp
          have c0 := P2.out.c0
          have c1 := P2.out.c1
          have c2 := P2.out.c2
          go_wp2_with (first | (go_at_call 18; refine (unhide GR).mono ?_; rintro e w3 ⟨b', cb', rfl, hr3, hb3⟩; have P3 := P2.out.below hb3; have x0 := P3.c0; have x1 := P3.c1; have x2 := P3.c2; have y0 := P3.fx 0; have y1 := P3.fx 1; have y2 := P3.fx 2; unfold rv))
          all_goals
            have P4 := hide (P2.out.ref hb3 hr3 HDN.out)
            go_roundw
            case rel => exact ⟨k + 1, b', cb', d, nx, left', by omega, by omega, by go_num, P4⟩
            case measure => simp [intOf]; omega
        | false =>
          obtain ⟨e1, e2⟩ := codeF_no (N := N) (room := room) (left := left) (g := true) (k := kk) (n := nn) (.inr hcn)
          rw [e2] at P2
          rw [e1]
          have P4 := hide P2.out.done
          have hcn' : nn < 0 ∨ 4096 < nn := by
            simp [cntB] at hcn
            omega
          clear hcn e1 e2 P2
          by_cases hn0 : nn < 0
          · clear hcn'
            go_wp2
            all_goals
              go_roundw
              case rel => exact ⟨k + 1, b, cb, d, nx, left, by omega, by omega, by go_num, P4⟩
              case measure => simp [intOf]; omega
          · have hn4 : 4096 < nn := by omega
            clear hcn'
            go_wp2
            all_goals
              go_roundw
              case rel => exact ⟨k + 1, b, cb, d, nx, left, by omega, by omega, by go_num, P4⟩
              case measure => simp [intOf]; omega
      by_cases hd2 : dd = 2
      · subst hd2
        have hdN : d = nx % N := HP1.out.dn
        have hN1 := HP1.out.pu.n1
        have HN8 := hide HP1.out.pu.n8
        have hdl : d ≤ N := by rw [hdN]; exact Nat.le_of_lt (Nat.mod_lt _ hN1)
        have hlf : Hid (∀ i, i < N → left i ≤ 4096) := fun i hi => Nat.le_trans (HP1.out.pu.le i hi) (HRL.out i hi)
        have hmd := any_mod left N nx
        rw [← hdN] at hmd
        have HMD := hide hmd
        have HDL := hide hdl
        have HN1 := hide hN1
        have HDN := hide hdN
        clear hmd hdl hN1 hdN
        cases hany : anyK left N nx with
        | none =>
          have GA : Hid (Calls Try.prog 11 #[.pointer (some ⟨p, 0, none⟩)] W1 fun e w' => e = .returned (.tuple #[.int .i64 0, .bool false]) ∧ Hid (∃ q, w' = W1.drewN q)) := any_none W1 p K kc N ch room left nx HP1.out.pu hany
          have HAN := hide hany
          clear hany
          go_upto_region 25 with (first | (go_at_call 11; refine (unhide GA).mono ?_; rintro e w2 ⟨rfl, hw2⟩))
          have P2 : Hid (Pm w w2 X Y p K kc N ch room left left nx nx q off ca b cb d) := by
            obtain ⟨mq, hw2'⟩ := hw2.out
            rw [hw2']
            exact HP1.out.prog ⟨HP1.out.pu.drewN mq, (Kp.refl _ _).drewN mq⟩
          clear hw2 GA
          have GR := refAny_any w2 q off ca b cb N d room left P2.out.rf HN8.out HN1.out HDL.out hlf.out
          rw [HMD.out, HAN.out] at GR
          have GR : Hid (Calls Try.prog 19 #[.agg #[.slice (some ⟨q, off, none⟩) N ca, .slice (some ⟨b, 0, none⟩) N cb, .int .i64 (d : Int)]] w2 (RTo w2 q off ca N d room left (-1))) := GR
          have DN2 : Hid (d = nx % N) := HDN
          clear a0 a1 a2 HA1 HP1
          have c0 := P2.out.c0
          have c1 := P2.out.c1
          have c2 := P2.out.c2
          go_upto_region 26 with (first | (go_at_call 19; refine (unhide GR).mono ?_; rintro e w3 ⟨b', cb', rfl, hr3, hb3⟩; unfold rv))
          obtain ⟨z1, z2, z3, z4⟩ := any_box (d' := d) P2.out hb3 hr3
          refine forget (P := fun W => Code.wp Try.prog _ _ _ W) (fun W => Hid (Pm w W X Y p K kc N ch room left left nx nx q off ca b cb d) ∧ Hid (Rf W q off b' cb' N room left) ∧ Hid (W.heap[w3.heap.size]? = some (.cells (rv q off ca b' cb' N d) 31 (0, 0)))) ⟨z1, z2, z3⟩ ?_
          clear z1 z2 z3 c0 c1 c2 hb3 hr3 GR P2
          generalize w3.heap.size = Z at *
          rintro W4 ⟨P4, R4, Z4⟩
          have z0 : W4.cell? ⟨Z, 0, none⟩ = some (.slice (some ⟨q, off, none⟩) N ca) := by simp [World.cell?, Z4.out, rv]
          have z1 : W4.cell? ⟨Z, 1, none⟩ = some (.slice (some ⟨b', 0, none⟩) N cb') := by simp [World.cell?, Z4.out, rv]
          have z2 : W4.cell? ⟨Z, 2, none⟩ = some (.int .i64 (d : Int)) := by simp [World.cell?, Z4.out, rv]
          have x0 := P4.out.c0
          have x1 := P4.out.c1
          have x2 := P4.out.c2
          have y0 := P4.out.fx 0
          have y1 := P4.out.fx 1
          have y2 := P4.out.fx 2
          have z4' := Ne.symm z4
          have P5 := hide (P4.out.ref (d' := d) (Below.refl _ _) R4.out DN2.out)
          go_wp2
          all_goals
            go_roundw
            case rel => exact ⟨k + 1, b', cb', d, nx, left, by omega, by omega, by go_num, P5⟩
            case measure => simp [intOf]; omega
        | some kx =>
          have GA := hide (any_some W1 p K kc N ch room left nx kx HP1.out.pu hany)
          have HAN := hide hany
          have hkx := (scan_some HN1.out N 0 kx hany).1
          clear hany
          go_upto_region 25 with (first | (go_at_call 11; refine (unhide GA).mono ?_; rintro e w2 ⟨rfl, t⟩))
          have P2 := hide (HP1.out.prog t)
          clear t GA
          have GR := refAny_any w2 q off ca b cb N d room left P2.out.rf HN8.out HN1.out HDL.out hlf.out
          rw [HMD.out, HAN.out] at GR
          obtain ⟨dn, hdn⟩ : ∃ dn, dn = (kx + 1) % N := ⟨_, rfl⟩
          have GR : Calls Try.prog 19 #[.agg #[.slice (some ⟨q, off, none⟩) N ca, .slice (some ⟨b, 0, none⟩) N cb, .int .i64 (d : Int)]] w2 (RTo w2 q off ca N ((kx + 1) % N) room (upd left kx (left kx - 1)) (kx : Int)) := GR
          rw [← hdn] at GR
          have GR := hide GR
          have DN2 := hide hdn
          have hkb : kx ≤ 8 := by have := HN8.out; omega
          clear hdn hkx a0 a1 a2 HA1 HP1
          generalize upd left kx (left kx - 1) = left' at *
          obtain ⟨nx', hnx'⟩ : ∃ nx', nx' = kx + 1 := ⟨_, rfl⟩
          rw [← hnx'] at P2 DN2
          clear hnx'
          have hkd : decide ((kx : Int) ≥ 0) = true := by simp
          have hkk : ((kx : Int) != kx) = false := by simp
          have c0 := P2.out.c0
          have c1 := P2.out.c1
          have c2 := P2.out.c2
          go_upto_region 26 with (first | (go_at_call 19; refine (unhide GR).mono ?_; rintro e w3 ⟨b', cb', rfl, hr3, hb3⟩; unfold rv))
          obtain ⟨z1, z2, z3, z4⟩ := any_box (d' := dn) P2.out hb3 hr3
          refine forget (P := fun W => Code.wp Try.prog _ _ _ W) (fun W => Hid (Pm w W X Y p K kc N ch room left left' nx nx' q off ca b cb d) ∧ Hid (Rf W q off b' cb' N room left') ∧ Hid (W.heap[w3.heap.size]? = some (.cells (rv q off ca b' cb' N dn) 31 (0, 0)))) ⟨z1, z2, z3⟩ ?_
          clear z1 z2 z3 c0 c1 c2 hb3 hr3 GR P2
          generalize w3.heap.size = Z at *
          rintro W4 ⟨P4, R4, Z4⟩
          have z0 : W4.cell? ⟨Z, 0, none⟩ = some (.slice (some ⟨q, off, none⟩) N ca) := by simp [World.cell?, Z4.out, rv]
          have z1 : W4.cell? ⟨Z, 1, none⟩ = some (.slice (some ⟨b', 0, none⟩) N cb') := by simp [World.cell?, Z4.out, rv]
          have z2 : W4.cell? ⟨Z, 2, none⟩ = some (.int .i64 (dn : Int)) := by simp [World.cell?, Z4.out, rv]
          have x0 := P4.out.c0
          have x1 := P4.out.c1
          have x2 := P4.out.c2
          have y0 := P4.out.fx 0
          have y1 := P4.out.fx 1
          have y2 := P4.out.fx 2
          have z4' := Ne.symm z4
          have P5 := hide (P4.out.ref (d' := dn) (Below.refl _ _) R4.out DN2.out)
          go_wp2
          all_goals
            go_roundw
            case rel => exact ⟨k + 1, b', cb', dn, nx', left', by omega, by omega, by go_num, P5⟩
            case measure => simp [intOf]; omega
      · have g0 : (dd == 0) = false := by simpa using hd0
        have g1 : (dd == 1) = false := by simpa using hd1
        have g2 : (dd == 2) = false := by simpa using hd2
        go_wp2
        all_goals
          go_roundw
          case rel => exact ⟨k + 1, b, cb, d, nx, left, by omega, by omega, by go_num, HP1⟩
          case measure => simp [intOf]; omega
    · have hd : ¬ (k < L ∧ k < 60) := hlt
      clear hlt
      have c0 := HP.out.mid.c0
      have c1 := HP.out.mid.c1
      have c2 := HP.out.mid.c2
      have d0 := HP.out.mid.d0
      have d1 := HP.out.mid.d1
      have d2 := HP.out.mid.d2
      have e0 := HP.out.mid.fy 0
      have e1 := HP.out.mid.fy 1
      have e2 := HP.out.mid.fy 2
      have hne := HP.out.ne
      have hne' := Ne.symm hne
      have fin : ∀ (u0 u1 u2 : Value) (m : Nat), Pu ((((wr.setCell ⟨Y, 0, none⟩ u0).setCell ⟨Y, 1, none⟩ u1).setCell ⟨Y, 2, none⟩ u2).drewN m) p K kc N ch room left nx ∧ Rf ((((wr.setCell ⟨Y, 0, none⟩ u0).setCell ⟨Y, 1, none⟩ u1).setCell ⟨Y, 2, none⟩ u2).drewN m) q off b cb N room left ∧ Below w.heap.size w ((((wr.setCell ⟨Y, 0, none⟩ u0).setCell ⟨Y, 1, none⟩ u1).setCell ⟨Y, 2, none⟩ u2).drewN m) := by
        intro u0 u1 u2 m
        have e : ∀ z, z ≠ Y → ((((wr.setCell ⟨Y, 0, none⟩ u0).setCell ⟨Y, 1, none⟩ u1).setCell ⟨Y, 2, none⟩ u2).drewN m).heap[z]? = wr.heap[z]? := fun z hz => ((hd_far hz).trans (hd_far hz)).trans (hd_far hz)
        have hyd := HP.out.yd
        obtain ⟨_, ek, _⟩ := HP.out.pu.kin
        obtain ⟨_, eb⟩ := HP.out.rf.s.ty
        have hbel := below_drewN (((HP.out.bel.setCell (p := ⟨Y, 0, none⟩) HP.out.lY u0).setCell (p := ⟨Y, 1, none⟩) HP.out.lY u1).setCell (p := ⟨Y, 2, none⟩) HP.out.lY u2) m
        exact ⟨HP.out.pu.same (e p (ne_type HP.out.pu.head hyd (by decide))) (e K (ne_type ek hyd (by decide))) (fun j hj => e _ (Ne.symm (ne_chan hyd (HP.out.pu.chs j hj)))), ⟨HP.out.rm.below hbel, HP.out.rf.s.same (e b (ne_type eb hyd (by decide)))⟩, hbel⟩
      have HFN := hide fin
      clear fin
      by_cases h1 : k < L
      · have h2 : ¬ k < 60 := fun h => hd ⟨h1, h⟩
        clear hd
        go_wp2
        go_region
        all_goals
          go_wp2
          obtain ⟨f1, f2, f3⟩ := HFN.out (.slice (some ⟨q, off, none⟩) N ca) (.slice (some ⟨b, 0, none⟩) N cb) (.int .i64 (d : Int)) 1
          exact bodyPost_ret (v := .tuple #[.pointer (some ⟨p, 0, none⟩), .agg #[.slice (some ⟨q, off, none⟩) N ca, .slice (some ⟨b, 0, none⟩) N cb, .int .i64 (d : Int)], .bool true]) (by simp [results, Try.results9, go_sem, c0, c1, c2, d0, d1, d2]) rfl ⟨p, K, kc, ch, left, nx, b, cb, d, rfl, f1, f2, f3, HP.out.lp, HP.out.lc⟩
      · clear hd
        go_wp2
        go_region
        all_goals
          go_wp2
          obtain ⟨f1, f2, f3⟩ := HFN.out (.slice (some ⟨q, off, none⟩) N ca) (.slice (some ⟨b, 0, none⟩) N cb) (.int .i64 (d : Int)) 1
          exact bodyPost_ret (v := .tuple #[.pointer (some ⟨p, 0, none⟩), .agg #[.slice (some ⟨q, off, none⟩) N ca, .slice (some ⟨b, 0, none⟩) N cb, .int .i64 (d : Int)], .bool true]) (by simp [results, Try.results9, go_sem, c0, c1, c2, d0, d1, d2]) rfl ⟨p, K, kc, ch, left, nx, b, cb, d, rfl, f1, f2, f3, HP.out.lp, HP.out.lc⟩
end Go.Proofs.Ytjijikkcpnojcaa
