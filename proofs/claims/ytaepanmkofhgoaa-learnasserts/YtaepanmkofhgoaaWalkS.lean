/- Contracts: which lists are trails, by the document; which are not too great. -/
import Derived.Test.YtaepanmkofhgoaaWalkR
import Derived.Test.YtaepanmkofhgoaaWalkP
set_option linter.unusedVariables false
set_option linter.unusedSimpArgs false
namespace Go.Proofs.Ytaepanmkofhgoaa
open Go.RowKit

/-- What is told of how great a trail and a clause are. -/
def LightP (ts : List As) (c : List Int) (e : Ending) : Prop := ∃ r : Bool, e = .returned (.bool r) ∧ (r = true → ts.length ≤ 20 ∧ c.length ≤ 100 ∧ ∀ i, i < ts.length → (nth ts i).rsn.length ≤ 300)
theorem lightP_no (ts : List As) (c : List Int) : LightP ts c (.returned (.bool false)) := ⟨false, rfl, fun e => by cases e⟩

set_option maxHeartbeats 1000000 in
theorem light_any (w : World) (a b : Option Addr) (ca cb : Nat) (ts : List As) (c : List Int) (h : Trl w a ts) (hl : ts.length ≤ maxLen) (hm : c.length ≤ maxLen) :
    Calls Try.prog 8 #[.slice a ts.length ca, .slice b c.length cb] w fun e w' => LightP ts c e ∧ w' = w := by
  unfold maxLen at hl hm
  go_enter Try.func8, Try.ntmps8
  go_wp2
  go_loop [5] (fun i => ∃ k : Nat, k ≤ ts.length ∧ k ≤ 21 ∧ i = .int .i64 k ∧ ∀ j, j < k → (nth ts j).rsn.length ≤ 300) (fun i => ts.length - (intOf i).toNat)
  case atStart => exact ⟨0, Nat.zero_le _, Nat.zero_le _, rfl, fun j hj => by omega⟩
  case round =>
    obtain ⟨k, hk, hk21, rfl, hno⟩ := hrel
    have HN := hide hno
    clear hno
    by_cases hlt : k < ts.length ∧ k ≤ 20
    · obtain ⟨hlt, h20⟩ := hlt
      obtain ⟨bb, off, rfl, hA⟩ := h k hlt
      obtain ⟨ra, rc, h2, _⟩ := hA.c2
      have hlen := hA.len
      unfold maxLen at hlen
      have hlt' : (k : Int) < ts.length := by omega
      have h20' : (k : Int) ≤ 20 := by omega
      by_cases he : (nth ts k).rsn.length ≤ 300
      · have HN2 : Hid (∀ j, j < k + 1 → (nth ts j).rsn.length ≤ 300) := by
          intro j hj
          by_cases e : j = k
          · rw [e]; exact he
          · exact HN.out j (by omega)
        have he' : ¬ (300 : Int) < (nth ts k).rsn.length := by omega
        clear hA h HN
        generalize (nth ts k).rsn.length = rn at *
        go_wp2
        go_round
        case rel => exact ⟨k + 1, by omega, by omega, by go_num, HN2.out⟩
        case measure => simp [intOf]; omega
      · have he' : (300 : Int) < (nth ts k).rsn.length := by omega
        clear hA h HN
        generalize (nth ts k).rsn.length = rn at *
        go_wp2
        go_ret
        exact ⟨lightP_no ts c, rfl⟩
    · clear h
      by_cases hA : ts.length ≤ 20
      · have hge : ¬ (k : Int) < ts.length := by omega
        have hA' : (ts.length : Int) ≤ 20 := by omega
        have HN2 : Hid (∀ j, j < ts.length → (nth ts j).rsn.length ≤ 300) := fun j hj => HN.out j (by omega)
        clear HN hlt
        go_wp2
        go_ret
        exact ⟨⟨_, rfl, fun e => ⟨hA, by have := of_decide_eq_true e; omega, HN2.out⟩⟩, rfl⟩
      · have h20 : ¬ (k : Int) ≤ 20 := by omega
        have hA' : ¬ (ts.length : Int) ≤ 20 := by omega
        clear HN hlt
        go_wp2
        all_goals
          go_ret
          exact ⟨lightP_no ts c, rfl⟩

theorem Trl.take {w : World} {a : Option Addr} {ts : List As} (h : Trl w a ts) (k : Nat) (hk : k ≤ ts.length) : Trl w a (ts.take k) := by
  intro i hi
  rw [len_take hk] at hi
  obtain ⟨b, off, e, hA⟩ := h i (by omega)
  exact ⟨b, off, e, by rw [nth_take hi]; exact hA⟩

theorem wo_all (rs : List Int) (lt : Int) (p : Int → Bool) : (wo rs lt).all p = rs.all (fun l => l == lt || p l) := by
  unfold wo
  induction rs with
  | nil => rfl
  | cons x rs ih =>
    simp only [List.filter_cons]
    by_cases e : x = lt
    · subst e; simpa using ih
    · have : (x != lt) = true := by simpa using e
      have e2 : (x == lt) = false := by simpa using e
      rw [if_pos this, List.all_cons, List.all_cons, ih, e2]
      rfl

theorem Own.row' {base : Nat} {w : World} {v : Value} {xs : List Int} (h : Own base w v xs) : ∃ a cap, v = .slice a xs.length cap ∧ Row w a xs := by
  obtain ⟨a, cap, e, hr, _⟩ := h.row
  exact ⟨a, cap, e, hr⟩

set_option maxHeartbeats 8000000 in
set_option maxRecDepth 100000 in
theorem refMay_any (w : World) (a : Option Addr) (cap : Nat) (ts : List As) (h : Trl w a ts) (hl : ts.length ≤ 20) (hcap : ts.length ≤ cap) (hcm : cap ≤ maxLen) (hrl : ∀ i, i < ts.length → (nth ts i).rsn.length ≤ 300) :
    Calls Try.prog 28 #[.slice a ts.length cap] w fun e w' => e = .returned (.bool (mayT ts)) ∧ Below w.heap.size w w' := by
  unfold maxLen at hcm
  go_enter Try.func28, Try.ntmps28
  go_wp2
  go_loopw [3, 4] (fun lv i wr => ∃ k : Nat, k ≤ ts.length ∧ i = .int .i64 k ∧ lv = .int .i64 (prevL ts k) ∧ OkTo ts k ∧ Below w.heap.size w wr) (fun _ i _ => ts.length - (intOf i).toNat)
  case atStart => exact ⟨0, Nat.zero_le _, rfl, rfl, fun i hi => by omega, Below.refl _ _⟩
  case round =>
    obtain ⟨k, hk, rfl, rfl, hok, hb⟩ := hrel
    by_cases hlt : k < ts.length
    · obtain ⟨b, off, rfl, hA⟩ := (h.below hb) k hlt
      obtain ⟨ra, rc, h2, hrow⟩ := hA.c2
      have hc0 := hA.c0
      have hc1 := hA.c1
      have hab := hA.lt
      have hrlk := hrl k hlt
      have hpb := hok.prev_bd
      have hlt' : (k : Int) < ts.length := by omega
      have hflv := hA.fit.2.2
      have hps := prevL_succ ts k
      go_upto_region 6 with fail
      refine forget (I := fun z => Below wr.heap.size wr z ∧ z.cell? ⟨wr.heap.size, 0, none⟩ = some (.int .i64 (nth ts k).lit) ∧ z.cell? ⟨wr.heap.size, 1, none⟩ = some (.int .i64 (nth ts k).lev) ∧ z.cell? ⟨wr.heap.size, 2, none⟩ = some (.slice ra (nth ts k).rsn.length rc)) ⟨below_alloc wr _, box_cell wr _ 38 rfl, box_cell wr _ 38 rfl, box_cell wr _ 38 rfl⟩ ?_
      rintro w1 ⟨hb1, cb0, cb1, cb2⟩
      have hbw : Below w.heap.size w w1 := hb.trans (hb1.mono hb.size)
      have hT1 : Trl w1 (some ⟨b, off, none⟩) (ts.take k) := (h.below hbw).take k hk
      have hlk := len_take hk
      have hd := hok.dst hk
      have hv := hok.vl
      have hrow1 := hrow.below hb1
      have CL := hide (fun w => lit_any (nth ts k).lit w)
      have hkc : (k : Int) ≤ cap := by omega
      clear h2 hc0 hc1 hab hA hrow
      generalize wr.heap.size = M at *
      by_cases hlit : litB (nth ts k).lit 1048576 = true
      · have hl2 := litB_true.1 hlit
        have CV := hide (fun w => var_any (nth ts k).lit w hl2.2.1 hl2.2.2)
        have CA := fun n => refAt_any (w1.drewN n) (some ⟨b, off, none⟩) cap (ts.take k) (varI (nth ts k).lit) (hT1.drewN n) (by omega) hv
        rw [hlk] at CA
        rw [hlit] at CL
        rcases atI_cases (ts.take k) (varI (nth ts k).lit) with ⟨hat, _⟩ | ⟨j, hj, hat, _⟩
        · rw [hat] at CA
          replace CA := hide CA
          by_cases hlo : (nth ts k).lev < prevL ts k
          · have HM := hide (mayT_no hlt (okB_far (pre := ts.take k) (a := nth ts k) (by omega) (by omega)))
            have hg : decide ((nth ts k).lev < prevL ts k) = true := by simpa using hlo
            clear hT1 hok h hd hv hb1 hb hat hlit hl2 hps hrl hlo
            generalize prevL ts k = lv at *
            generalize varI (nth ts k).lit = vv at *
            generalize (nth ts k).lit = lt at *
            generalize (nth ts k).lev = le at *
            generalize (nth ts k).rsn.length = rn at *
            go_quiet ((first | (go_at_call 17; exact quietS (unhide CL _)) | (go_at_call 44; exact quietS (unhide CV _)) | (go_at_call 43; exact quietS (unhide CA _))))
            go_wp2
            go_ret
            exact ⟨ret_bool HM.out.symm, below_drewN hbw _⟩
          · by_cases hhi : prevL ts k < (nth ts k).lev - 1
            · have HM := hide (mayT_no hlt (okB_far (pre := ts.take k) (a := nth ts k) (by omega) (by omega)))
              have hg : decide ((nth ts k).lev < prevL ts k) = false := by simpa using hlo
              have hg2 : decide (prevL ts k < (nth ts k).lev - 1) = true := by simpa using hhi
              have hlo' : 0 ≤ (nth ts k).lev := by omega
              have hle2 := hflv.2
              clear hT1 hok h hd hv hb1 hb hat hlit hl2 hps hrl hhi
              generalize prevL ts k = lv at *
              generalize varI (nth ts k).lit = vv at *
              generalize (nth ts k).lit = lt at *
              generalize (nth ts k).lev = le at *
              generalize (nth ts k).rsn.length = rn at *
              go_quiet ((first | (go_at_call 17; exact quietS (unhide CL _)) | (go_at_call 44; exact quietS (unhide CV _)) | (go_at_call 43; exact quietS (unhide CA _))))
              go_wp2
              go_ret
              exact ⟨ret_bool HM.out.symm, below_drewN hbw _⟩
            · by_cases hnx : (nth ts k).lev = prevL ts k + 1
              · rw [hnx] at cb1 hps
                have HOK := okB_next hlit hat hnx
                have HPS := hide hps
                have hg : decide (prevL ts k + 1 < prevL ts k) = false := by simp; omega
                have hg2 : decide (prevL ts k < prevL ts k + 1 - 1) = false := by simp
                by_cases hr0 : (nth ts k).rsn.length = 0
                · have HO2 := hide (hok.succ (by rw [HOK]; simpa using hr0))
                  rw [hr0] at cb2
                  clear hT1 hok h hd hv hb1 hb hat hlit hl2 hps hrl hhi hlo HOK hrow1 hrlk hr0 hnx hflv
                  generalize prevL ts k = lv at *
                  generalize varI (nth ts k).lit = vv at *
                  generalize (nth ts k).lit = lt at *
                  go_quiet ((first | (go_at_call 17; exact quietS (unhide CL _)) | (go_at_call 44; exact quietS (unhide CV _)) | (go_at_call 43; exact quietS (unhide CA _))))
                  go_wp2
                  go_roundw
                  case rel => exact ⟨k + 1, by omega, by go_num, by rw [HPS.out], HO2.out, below_drewN hbw _⟩
                  case measure => simp [intOf]; omega
                · have HM := hide (mayT_no hlt (by rw [HOK]; simpa using hr0))
                  have hr1 : (0 : Int) < (nth ts k).rsn.length := by omega
                  clear hT1 hok h hd hv hb1 hb hat hlit hl2 hps hrl hhi hlo HOK hrow1 hr0 hnx hflv
                  generalize prevL ts k = lv at *
                  generalize varI (nth ts k).lit = vv at *
                  generalize (nth ts k).lit = lt at *
                  generalize (nth ts k).rsn.length = rn at *
                  go_quiet ((first | (go_at_call 17; exact quietS (unhide CL _)) | (go_at_call 44; exact quietS (unhide CV _)) | (go_at_call 43; exact quietS (unhide CA _))))
                  go_wp2
                  go_ret
                  exact ⟨ret_bool HM.out.symm, below_drewN hbw _⟩
              · have heq : (nth ts k).lev = prevL ts k := by omega
                rw [heq] at cb1 hps
                have HOK := okB_same hlit hat heq
                have HPS := hide hps
                have hg : decide (prevL ts k < prevL ts k) = false := by simp
                have hg2 : decide (prevL ts k < prevL ts k - 1) = false := by simp; omega
                have hMlt : M < w1.heap.size := World.block_lt_of_cell? w1 _ cb0
                have hfl : Below w1.heap.size w1 w1 := Below.refl _ _
                have CH := fun n => has_any ra rc (nth ts k).rsn (nth ts k).lit (w1.drewN n) (hrow1.below (below_drew w1 n)) (by unfold maxLen; omega)
                have CW := hide (fun n => refWithout_any ra rc (nth ts k).rsn (nth ts k).lit (w1.drewN n) (hrow1.below (below_drew w1 n)) (by omega))
                have CB := fun w' (hb' : Below w1.heap.size w1 w') a' cap' (hr' : Row w' a' (wo (nth ts k).rsn (nth ts k).lit)) => refBreaks_any w' (some ⟨b, off, none⟩) a' cap cap' (ts.take k) (wo (nth ts k).rsn (nth ts k).lit) (hT1.below hb') (by omega) hd hv hr' (by have := wo_len (nth ts k).rsn (nth ts k).lit; unfold maxLen; omega)
                rw [hlk, wo_all] at CB
                by_cases h256 : (256 : Int) < (nth ts k).rsn.length
                · have hg256 : decide ((256 : Int) < (nth ts k).rsn.length) = true := by simpa using h256
                  have HM := hide (mayT_no hlt (by rw [HOK]; unfold rsnB; rw [decide_eq_false (by omega : ¬ (nth ts k).rsn.length ≤ 256)]; rfl))
                  clear CH CW CB hT1 hok h hd hv hb1 hb hat hlit hl2 hps hrl hhi hlo HOK hrow1 hnx hflv heq
                  generalize prevL ts k = lv at *
                  generalize varI (nth ts k).lit = vv at *
                  generalize (nth ts k).lit = lt at *
                  generalize (nth ts k).rsn.length = rn at *
                  go_quiet ((first | (go_at_call 17; exact quietS (unhide CL _)) | (go_at_call 44; exact quietS (unhide CV _)) | (go_at_call 43; exact quietS (unhide CA _))))
                  go_wp2
                  go_quiet (fail)
                  go_wp2
                  go_ret
                  exact ⟨ret_bool HM.out.symm, below_drewN (below_drewN hbw _) _⟩
                · have e256 : decide ((nth ts k).rsn.length ≤ 256) = true := by simp; omega
                  have hg256 : decide ((256 : Int) < (nth ts k).rsn.length) = false := by simp; omega
                  by_cases hh : hasB (nth ts k).rsn (nth ts k).lit = true
                  · rw [hh] at CH
                    replace CH := hide CH
                    have HRS : rsnB (ts.take k) (nth ts k) = (nth ts k).rsn.all (fun l => l == (nth ts k).lit || falB (ts.take k) l) := by unfold rsnB; rw [e256, hh]; rfl
                    have HRES : Hid ((okB (ts.take k) (prevL ts k) (nth ts k)) = (nth ts k).rsn.all (fun l => l == (nth ts k).lit || falB (ts.take k) l)) := HOK.trans HRS
                    have HNO := hide (fun e => mayT_no hlt e)
                    have HYES := hide (fun e => hok.succ (k := k) e)
                    clear hT1 hok h hd hv hb1 hb hat hlit hl2 hps hrl hhi hlo HOK hrow1 hnx hflv heq hh HRS e256
                    generalize okB (ts.take k) (prevL ts k) (nth ts k) = OK at *
                    generalize (nth ts k).rsn.all (fun l => l == (nth ts k).lit || falB (ts.take k) l) = AL at *
                    generalize (wo (nth ts k).rsn (nth ts k).lit) = WO at *
                    generalize prevL ts k = lv at *
                    generalize varI (nth ts k).lit = vv at *
                    generalize (nth ts k).lit = lt at *
                    generalize (nth ts k).rsn.length = rn at *
                    replace CB := hide CB
                    go_quiet ((first | (go_at_call 17; exact quietS (unhide CL _)) | (go_at_call 44; exact quietS (unhide CV _)) | (go_at_call 43; exact quietS (unhide CA _))))
                    go_upto_region 12 with fail
                    go_region_held3 (fun z => z.cell? ⟨M, 2, none⟩ = some (.slice ra rn rc) ∧ z.cell? ⟨M, 0, none⟩ = some (.int .i64 lt)) (first | go_keep | exact ⟨by assumption, by assumption⟩) (first
                      | (go_at_call 33; refine (unhide CH _).mono ?_; rintro e w0 ⟨rfl, hw0⟩; subst w0)
                      | (go_at_call 34; refine (unhide CW _).mono ?_; rintro e w2 ⟨v2, rfl, ho2, -, hb2⟩; obtain ⟨a2, cc2, rfl, hr2⟩ := Own.row' ho2; have hb12 := (below_drew w1 _).trans hb2; have k2 := (hb12.cell (p := ⟨M, 2, none⟩) hMlt).trans cb2; have k0 := (hb12.cell (p := ⟨M, 0, none⟩) hMlt).trans cb0; clear ho2 hb2)
                      | (go_at_call 22; refine (unhide CB _ hb12 _ _ hr2).mono ?_; rintro e w0 ⟨rfl, n2, hw0⟩; subst w0))
                    have hbe : Below w.heap.size w (w2.drewN n2) := below_drewN (hbw.trans (hb12.mono hbw.size)) n2
                    have HBE := hide hbe
                    clear hbe k2 k0 hr2 cb0 cb1 cb2 CB CW CH CL CV CA
                    cases AL
                    · go_wp2
                      go_ret
                      exact ⟨ret_bool (HNO.out HRES.out).symm, HBE.out⟩
                    · go_wp2
                      go_roundw
                      case rel => exact ⟨k + 1, by omega, by go_num, by rw [HPS.out], HYES.out HRES.out, HBE.out⟩
                      case measure => simp [intOf]; omega
                  · have hh' : hasB (nth ts k).rsn (nth ts k).lit = false := by simpa using hh
                    rw [hh'] at CH
                    replace CH := hide CH
                    have HM := hide (mayT_no hlt (by rw [HOK]; unfold rsnB; rw [hh']; simp))
                    clear CW CB hT1 hok h hd hv hb1 hb hat hlit hl2 hps hrl hhi hlo HOK hrow1 hnx hflv heq hh hh' e256
                    generalize prevL ts k = lv at *
                    generalize varI (nth ts k).lit = vv at *
                    generalize (nth ts k).lit = lt at *
                    generalize (nth ts k).rsn.length = rn at *
                    go_quiet ((first | (go_at_call 17; exact quietS (unhide CL _)) | (go_at_call 44; exact quietS (unhide CV _)) | (go_at_call 43; exact quietS (unhide CA _))))
                    go_wp2
                    go_quiet ((go_at_call 33; exact quietC (unhide CH _)))
                    go_wp2
                    go_ret
                    exact ⟨ret_bool HM.out.symm, below_drewN (below_drewN hbw _) _⟩
        · rw [hat] at CA
          replace CA := hide CA
          have HM := hide (mayT_no hlt (okB_twice (lv := prevL ts k) (by rw [hat]; omega)))
          have hg : decide (0 ≤ (j : Int)) = true := by simp
          clear hT1 hok h hd hv hb1 hb hat hlit hl2 hps hrl
          generalize prevL ts k = lv at *
          generalize varI (nth ts k).lit = vv at *
          generalize (nth ts k).lit = lt at *
          generalize (nth ts k).lev = le at *
          generalize (nth ts k).rsn.length = rn at *
          go_quiet ((first | (go_at_call 17; exact quietS (unhide CL _)) | (go_at_call 44; exact quietS (unhide CV _)) | (go_at_call 43; exact quietS (unhide CA _))))
          go_wp2
          go_ret
          exact ⟨ret_bool HM.out.symm, below_drewN hbw _⟩
      · have hlit' : litB (nth ts k).lit 1048576 = false := by simpa using hlit
        have HM := hide (mayT_no hlt (okB_no (lv := prevL ts k) hlit'))
        rw [hlit'] at CL
        clear hT1 hok h hd hv hb1 hb hlit hlit' hps hrl
        generalize prevL ts k = lv at *
        generalize (nth ts k).lit = lt at *
        generalize (nth ts k).lev = le at *
        generalize (nth ts k).rsn.length = rn at *
        go_quiet ((go_at_call 17; exact quietS (unhide CL _)))
        go_wp2
        go_ret
        exact ⟨ret_bool HM.out.symm, below_drewN hbw _⟩
    · have hz : k = ts.length := by omega
      subst hz
      have HM := hide ((mayT_iff (by omega)).2 hok)
      clear h
      go_wp2
      go_ret
      exact ⟨ret_bool (by rw [HM.out]; simp; omega), hb⟩

end Go.Proofs.Ytaepanmkofhgoaa
