/- Contracts: one is bumped; the step grows. -/
import Derived.Test.YtidhnmooloedmaaWalkD
set_option linter.unusedVariables false
set_option linter.unusedSimpArgs false
namespace Go.Proofs.Ytidhnmooloedmaa
open Go.RowKit

def HS.bumped (s : HS) (v : Nat) : HS := if s.sc v + s.st > 1099511627776 then (s.bmp v).div else s.bmp v
def HS.decayed (s : HS) : HS := if s.st + (s.st / 16 + 1) > 1099511627776 then s.dec.div else s.dec

/-- What a call leaves: a heap at rest like another one. -/
def Rest (w : World) (B S P O c n : Nat) (s : HS) (r : Ending) (e : Ending) (w' : World) : Prop :=
  e = r ∧ ∃ t, Hp w' B S P O c n t ∧ Kp (Of B S P O) w w' ∧ Full n t ∧ Like n s t

set_option maxHeartbeats 400000 in
theorem bump_no (w : World) (B S P O c n : Nat) (s : HS) (v : Int) (hA : Hp w B S P O c n s) (h : varB n v = false) : Calls Try.prog 22 #[.pointer (some ⟨B, 0, none⟩), .int .i64 v] w fun e w' => e = .returned (.int .i64 1) ∧ w' = w := by
  have G := hide (isVar_any w B S P O c n s v hA)
  rw [h] at G
  clear hA h
  go_enter Try.func22, Try.ntmps22
  go_wp2_with (first | (go_at_call 29; refine (unhide G).mono ?_; rintro e w0 ⟨rfl, hw0⟩; subst w0))
  all_goals
    go_ret
    exact ⟨ret_int rfl, rfl⟩

set_option maxHeartbeats 1000000 in
theorem bump_yes (w : World) (B S P O c n : Nat) (s : HS) (v : Nat) (hA : Hp w B S P O c n s) (hF : Full n s) (h1 : 1 ≤ v) (h2 : v ≤ n) :
    Calls Try.prog 22 #[.pointer (some ⟨B, 0, none⟩), .int .i64 (v : Int)] w (Rest w B S P O c n (s.bumped v) (.returned (.int .i64 0))) := by
  have G := hide (isVar_any w B S P O c n s v hA)
  rw [varB_nat h1 h2] at G
  have hn := hA.n20
  have HA := hide hA
  have HF := hide hF
  have c1 := hA.c1
  have c4 := hA.c4
  have ec := hA.rs.cell (i := v) (by omega)
  have fc := hA.rs.fz v
  have hsc := hF.sz.sc v h2
  have hst := hF.sz.st
  clear hA hF
  go_enter Try.func22, Try.ntmps22
  go_upto_region 3 with (first | (go_at_call 29; refine (unhide G).mono ?_; rintro e w0 ⟨rfl, hw0⟩; subst w0))
  go_cut [] from 9 to 21 (fun wx => Hid (Hp wx B S P O c n (s.bmp v)) ∧ Hid (Kp (Of B S P O) w wx))
  case first =>
    go_region
    all_goals
      go_wp2_with fail
      go_meet
      case rel => exact ⟨(HA.out.setSc (i := v) h2 (s.sc v + s.st)).drewN 1, ((Kp.refl _ w).setCell (p := ⟨S, v, none⟩) (.inr (.inl rfl)) _).drewN 1⟩
  case rest =>
  obtain ⟨HB, HK⟩ := hcut
  clear c1 c4 ec fc G
  have c2 := HB.out.c2
  have ep : wc.cell? ⟨P, v, none⟩ = some (.int .i64 (s.pl v)) := HB.out.rp.cell (i := v) (by omega)
  have hwb := bmp_wf HF.out.wf v
  rcases HF.out.wf.back v h1 h2 with ho | ⟨i, hi, hpi, hoi⟩
  · rw [ho] at ep
    have c1 := HB.out.c1
    have ec : wc.cell? ⟨S, v, none⟩ = some (.int .i64 (s.sc v + s.st)) := by
      have := HB.out.rs.cell (i := v) (by omega)
      rw [this]; show some (Value.int .i64 (upd s.sc v _ v)) = _; rw [upd_same]
    have hh := bmp_out HF.out.wf HF.out.hp ho
    by_cases hb : s.sc v + s.st > 1099511627776
    · have G := hide (scale_any wc B S P O c n (s.bmp v) HB.out hwb (bmp_sz HF.out.sz h1 h2))
      have hdv := div_sz (bmp_sz HF.out.sz h1 h2)
      have HD := hide hdv
      clear hwb hh hdv ho
      generalize hx : s.sc v + s.st = x at *
      have HX := hide hx
      clear hx
      go_wp2_with (first | (go_at_call 30; refine (unhide G).mono ?_; rintro e w2 ⟨rfl, t, hp2, kp2, wf2, hh2, hl2⟩))
      go_ret
      refine ⟨rfl, t, hp2, HK.out.trans kp2, ⟨wf2, hh2, hl2.sz HD.out⟩, ?_⟩
      unfold HS.bumped
      rw [if_pos (by rw [HX.out]; exact hb)]; exact hl2
    · have HD := hide (bmp_sz1 HF.out.sz h1 h2 hb)
      have HH := hide hh
      have HW := hide hwb
      clear hwb hh ho
      generalize hx : s.sc v + s.st = x at *
      have HX := hide hx
      clear hx
      go_wp2
      go_ret
      refine ⟨rfl, s.bmp v, HB.out, HK.out, ⟨HW.out, HH.out, HD.out⟩, ?_⟩
      unfold HS.bumped
      rw [if_neg (by rw [HX.out]; omega)]; exact Like.refl _ _
  · rw [hpi] at ep
    have hkn := HF.out.wf.kn
    have GR := hide (rise_any wc B S P O c n (s.bmp v) i HB.out hwb hi (bmp_at HF.out.wf HF.out.hp hst.1 hi hoi))
    have hi2 : (i : Int) ≠ -1 := by omega
    clear hpi hoi
    go_upto_region 6 with (first | (go_at_call 32; refine (unhide GR).mono ?_; rintro e w2 ⟨rfl, t, hp2, kp2, wf2, hh2, hl2⟩))
    have c1 := hp2.c1
    have ec : w2.cell? ⟨S, v, none⟩ = some (.int .i64 (s.sc v + s.st)) := by
      have := hp2.rs.cell (i := v) (by omega)
      rw [this, hl2.sc]; show some (Value.int .i64 (upd s.sc v _ v)) = _; rw [upd_same]
    by_cases hb : s.sc v + s.st > 1099511627776
    · have hz2 := hl2.sz2 (bmp_sz HF.out.sz h1 h2)
      have G := hide (scale_any w2 B S P O c n t hp2 wf2 hz2)
      have HD := hide (div_sz hz2)
      have HL : Hid (Like n (s.bmp v).div t.div) := ⟨hl2.k, by show (fun u => t.sc u / 1048576) = _; rw [hl2.sc]; rfl, by show max (t.st / 1048576) 1 = _; rw [hl2.st]; rfl, hl2.out⟩
      have HK2 := hide kp2
      clear hwb hz2 hl2 hp2 kp2 wf2 hh2 GR ep c2
      generalize hx : s.sc v + s.st = x at *
      have HX := hide hx
      clear hx
      go_wp2_with (first | (go_at_call 30; refine (unhide G).mono ?_; rintro e w3 ⟨rfl, t3, hp3, kp3, wf3, hh3, hl3⟩))
      go_ret
      refine ⟨rfl, t3, hp3, (HK.out.trans HK2.out).trans kp3, ⟨wf3, hh3, hl3.sz HD.out⟩, ?_⟩
      unfold HS.bumped
      rw [if_pos (by rw [HX.out]; exact hb)]; exact HL.out.trans hl3
    · have HD := hide (hl2.sz (bmp_sz1 HF.out.sz h1 h2 hb))
      have HH := hide hh2
      have HW := hide wf2
      have HL := hide hl2
      have HP2 := hide hp2
      have HK2 := hide kp2
      clear hwb hh2 wf2 hl2 hp2 kp2 GR ep c2
      generalize hx : s.sc v + s.st = x at *
      have HX := hide hx
      clear hx
      go_wp2
      go_ret
      refine ⟨rfl, t, HP2.out, HK.out.trans HK2.out, ⟨HW.out, HH.out, HD.out⟩, ?_⟩
      unfold HS.bumped
      rw [if_neg (by rw [HX.out]; omega)]; exact HL.out

set_option maxHeartbeats 1000000 in
theorem decay_any (w : World) (B S P O c n : Nat) (s : HS) (hA : Hp w B S P O c n s) (hF : Full n s) :
    Calls Try.prog 15 #[.pointer (some ⟨B, 0, none⟩)] w (Rest w B S P O c n s.decayed (.returned (.tuple #[]))) := by
  have G := hide (given_any w B S P O c n s hA)
  have hn := hA.n20
  have HA := hide hA
  have HF := hide hF
  have c4 := hA.c4
  have f4 := hA.fz 4
  have hst := hF.sz.st
  clear hA hF
  go_enter Try.func15, Try.ntmps15
  go_upto_region 1 with (first | (go_at_call 28; refine (unhide G).mono ?_; rintro e w0 ⟨rfl, hw0⟩; subst w0))
  go_cut [] from 5 to 17 (fun wx => Hid (Hp wx B S P O c n s.dec) ∧ Hid (Kp (Of B S P O) w wx))
  case first =>
    go_region
    all_goals
      go_wp2_with fail
      go_meet
      case rel => exact ⟨(HA.out.setSt (s.st + (s.st / 16 + 1))).drewN 1, ((Kp.refl _ w).setCell (p := ⟨B, 4, none⟩) (.inl rfl) _).drewN 1⟩
  case rest =>
  obtain ⟨HB, HK⟩ := hcut
  clear c4 f4 G
  have c4 : wc.cell? ⟨B, 4, none⟩ = some (.int .i64 (s.st + (s.st / 16 + 1))) := HB.out.c4
  have hwb : WF n s.dec := ⟨HF.out.wf.at', HF.out.wf.back, HF.out.wf.cnt⟩
  have hhb : Hpf s.dec 0 := HF.out.hp
  by_cases hb : s.st + (s.st / 16 + 1) > 1099511627776
  · have G := hide (scale_any wc B S P O c n s.dec HB.out hwb (dec_sz HF.out.sz))
    have HD := hide (div_sz (dec_sz HF.out.sz))
    clear hwb hhb
    generalize hx : s.st + (s.st / 16 + 1) = x at *
    have HX := hide hx
    clear hx
    go_wp2_with (first | (go_at_call 30; refine (unhide G).mono ?_; rintro e w2 ⟨rfl, t, hp2, kp2, wf2, hh2, hl2⟩))
    go_end0
    refine ⟨rfl, t, hp2, HK.out.trans kp2, ⟨wf2, hh2, hl2.sz HD.out⟩, ?_⟩
    unfold HS.decayed
    rw [if_pos (by rw [HX.out]; exact hb)]; exact hl2
  · have HD := hide (dec_sz1 HF.out.sz hb)
    have HH := hide hhb
    have HW := hide hwb
    clear hwb hhb
    generalize hx : s.st + (s.st / 16 + 1) = x at *
    have HX := hide hx
    clear hx
    go_wp2
    go_end0
    refine ⟨rfl, s.dec, HB.out, HK.out, ⟨HW.out, HH.out, HD.out⟩, ?_⟩
    unfold HS.decayed
    rw [if_neg (by rw [HX.out]; omega)]; exact Like.refl _ _
end Go.Proofs.Ytidhnmooloedmaa
