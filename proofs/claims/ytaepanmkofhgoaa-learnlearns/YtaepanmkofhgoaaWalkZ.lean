/- Contracts: what is idle, and what is left without it, by the document. -/
import Derived.Test.YtaepanmkofhgoaaWalkX
import Derived.Test.YtaepanmkofhgoaaWalkS
set_option linter.unusedVariables false
set_option linter.unusedSimpArgs false
namespace Go.Proofs.Ytaepanmkofhgoaa
open Go.RowKit

/-- Does a literal not speak against that something is idle? -/
def notAg (ts : List As) (L : List Int) (lt l : Int) : Bool := !(l != lt && (decide (0 < levI ts l) && (!hasB L l && !idleAt ts L (pl ts l))))

theorem idle_ag {ts : List As} (T : Tr ts) (L : List Int) {j : Nat} (hj : j < ts.length) : idleAt ts L j = (decide ((nth ts j).rsn.length ≠ 0) && (nth ts j).rsn.all (notAg ts L (nth ts j).lit)) := idle_doc T L hj

set_option maxHeartbeats 4000000 in
theorem refIdle_any (ts : List As) (L : List Int) (T : Tr ts) (h20 : ts.length ≤ 20) (hl : L.length ≤ 7000) (a b : Option Addr) (ca cb : Nat) :
    ∀ (m : Nat) (w : World) (l : Int), Trl w a ts → Row w b L → falB ts l = true → pl ts l < m → Calls Try.prog 40 #[.slice a ts.length ca, .slice b L.length cb, .int .i64 l] w fun e w' => e = .returned (.bool (idleAt ts L (pl ts l))) ∧ Below w.heap.size w w' := by
  intro m
  induction m with
  | zero => intro w l _ _ _ hp; omega
  | succ m ih =>
    intro w l h hr hf hp
    have hb := litB_true.1 (fal_lit T.vl hf)
    have CV := hide (fun w => var_any l w hb.2.1 hb.2.2)
    have CA := refAt_any w a ca ts (varI l) h h20 T.vl
    have hfl := T.fal hf
    rw [hfl.2.2] at CA
    replace CA := hide CA
    have hj := hfl.1
    have HR := hide (idle_ag T L hj)
    have hrs := fun x hx hne => T.rsn (l := x) hj hx hne
    have CL := hide (fun w' (hb : Below w.heap.size w w') x hx => refLevel_any w' a ca ts x (h.below hb) h20 T hx)
    have CH := hide (fun w' (hb : Below w.heap.size w w') x => has_any b cb L x w' (hr.below hb) (by unfold maxLen; omega))
    have CI := hide (fun w' (hb : Below w.heap.size w w') x (hx : falB ts x = true) hpx => ih w' x (h.below hb) (hr.below hb) hx hpx)
    generalize pl ts l = j at *
    obtain ⟨b1, off1, ea, hA⟩ := h j hj
    subst ea
    obtain ⟨ra, rc, h2, hrow⟩ := hA.c2
    have hA0 := hA.c0
    have hA1 := hA.c1
    have hAl := hA.lt
    have hrl := T.rsn_len hj
    have hj' : (j : Int) < ts.length := by omega
    have HRS : Hid (∀ x ∈ (nth ts j).rsn, x ≠ (nth ts j).lit → falB ts x = true ∧ pl ts x < m) := by
      intro x hx hne
      obtain ⟨i, hi, e⟩ := hrs x hx hne
      have := (T.pl_of (by omega) e).1
      exact ⟨falB_iff.2 ⟨i, by omega, e⟩, by omega⟩
    clear ih h hr hA hfl hf hrs hb
    generalize idleAt ts L j = ID at *
    generalize hrsn : (nth ts j).rsn = rs at *
    generalize hlt : (nth ts j).lit = lt at *
    generalize (nth ts j).lev = le at *
    clear hrsn hlt
    generalize varI l = vv at *
    go_enter Try.func40, Try.ntmps40
    go_upto_region 3 with (first | (go_at_call 44; refine (unhide CV _).mono ?_; rintro e w0 ⟨rfl, hw0⟩; subst w0) | (go_at_call 43; refine (unhide CA).mono ?_; rintro e w0 ⟨rfl, hw0⟩; subst w0))
    refine forget (I := fun z => Below w.heap.size w z ∧ z.cell? ⟨w.heap.size, 0, none⟩ = some (.int .i64 lt) ∧ z.cell? ⟨w.heap.size, 2, none⟩ = some (.slice ra rs.length rc)) ⟨below_alloc w _, box_cell w _ 38 rfl, box_cell w _ 38 rfl⟩ ?_
    rintro W1 ⟨hbW, x0, x2⟩
    have hM := World.block_lt_of_cell? W1 _ x0
    dsimp only at hM
    have hrow1 := hrow.below hbW
    have HBW := hide hbW
    have X0 := hide x0
    have X2 := hide x2
    have HROW := hide hrow1
    clear hA0 hA1 h2 hAl hrow hrow1 CV CA x0 x2 hbW
    generalize hMM : w.heap.size = M at hM X0 X2 ⊢
    have HMM := hide hMM
    clear hMM
    go_loopw [8] (fun i wr => ∃ k : Nat, k ≤ rs.length ∧ i = .int .i64 k ∧ (rs.take k).all (notAg ts L lt) = true ∧ Below W1.heap.size W1 wr) (fun i _ => rs.length - (intOf i).toNat)
    case atStart => exact ⟨0, Nat.zero_le _, rfl, rfl, Below.refl _ _⟩
    case round =>
      obtain ⟨k, hk, rfl, hno, hbel⟩ := hrel
      have HN := hide hno
      have y0 := (hbel.cell (p := ⟨M, 0, none⟩) hM).trans X0.out
      have y2 := (hbel.cell (p := ⟨M, 2, none⟩) hM).trans X2.out
      have hbw : Below w.heap.size w wr := HBW.out.trans (hbel.mono HBW.out.size)
      clear hno
      by_cases hlt : k < rs.length
      · obtain ⟨b3, off3, rfl, hb3, hc3⟩ := HROW.out k hlt
        have hc3' := (hbel.cell (p := ⟨b3, off3 + k, none⟩) hb3).trans hc3
        have hlt' : (k : Int) < rs.length := by omega
        by_cases hne : rs[k] = lt
        · have hq : (rs[k] != lt) = false := by simpa using hne
          have HG : Hid (notAg ts L lt rs[k] = true) := by show _ = _; unfold notAg; rw [hq]; rfl
          clear hne CL CH CI hc3
          go_wp2
          go_roundw
          case rel => exact ⟨k + 1, by omega, by go_num, all_take_snoc _ rs k hlt HN.out HG.out, hbel⟩
          case measure => simp [intOf]; omega
        · have hq : (rs[k] != lt) = true := by simpa using hne
          obtain ⟨hfx, hpx⟩ := HRS.out _ (List.getElem_mem hlt) hne
          have C1 := hide ((unhide CL) wr hbw rs[k] hfx)
          by_cases hlv : 0 < levI ts rs[k]
          · have C2 := (unhide CH) wr hbw rs[k]
            by_cases hhs : hasB L rs[k] = true
            · rw [hhs] at C2
              replace C2 := hide C2
              have HG : Hid (notAg ts L lt rs[k] = true) := by show _ = _; unfold notAg; rw [hhs]; simp
              clear hne CL CH CI hc3 hhs
              generalize levI ts rs[k] = lx at *
              go_wp2_with (first | (go_at_call 23; refine (unhide C1).mono ?_; rintro e w0 ⟨rfl, hw0⟩; subst w0) | (go_at_call 33; refine (unhide C2).mono ?_; rintro e w0 ⟨rfl, hw0⟩; subst w0))
              go_roundw
              case rel => exact ⟨k + 1, by omega, by go_num, all_take_snoc _ rs k hlt HN.out HG.out, hbel⟩
              case measure => simp [intOf]; omega
            · have hhs' : hasB L rs[k] = false := by simpa using hhs
              rw [hhs'] at C2
              replace C2 := hide C2
              have C3 := (unhide CI) wr hbw rs[k] hfx hpx
              by_cases hid : idleAt ts L (pl ts rs[k]) = true
              · rw [hid] at C3
                replace C3 := hide C3
                have HG : Hid (notAg ts L lt rs[k] = true) := by show _ = _; unfold notAg; rw [hid]; simp
                clear hne CL CH CI hc3 hhs hhs' hid
                generalize levI ts rs[k] = lx at *
                go_wp2_with (first | (go_at_call 23; refine (unhide C1).mono ?_; rintro e w0 ⟨rfl, hw0⟩; subst w0) | (go_at_call 33; refine (unhide C2).mono ?_; rintro e w0 ⟨rfl, hw0⟩; subst w0) | (go_at_call 40; refine (unhide C3).mono ?_; rintro e w4 ⟨rfl, hb4⟩))
                go_roundw
                case rel => exact ⟨k + 1, by omega, by go_num, all_take_snoc _ rs k hlt HN.out HG.out, hbel.trans (hb4.mono hbel.size)⟩
                case measure => simp [intOf]; omega
              · have hid' : idleAt ts L (pl ts rs[k]) = false := by simpa using hid
                rw [hid'] at C3
                replace C3 := hide C3
                have HG : Hid (notAg ts L lt rs[k] = false) := by show _ = _; unfold notAg; rw [hid', hhs', hq, decide_eq_true hlv]; rfl
                clear hne CL CH CI hc3 hhs hhs' hid hid'
                generalize levI ts rs[k] = lx at *
                go_wp2_with (first | (go_at_call 23; refine (unhide C1).mono ?_; rintro e w0 ⟨rfl, hw0⟩; subst w0) | (go_at_call 33; refine (unhide C2).mono ?_; rintro e w0 ⟨rfl, hw0⟩; subst w0) | (go_at_call 40; refine (unhide C3).mono ?_; rintro e w4 ⟨rfl, hb4⟩))
                go_ret
                refine ⟨ret_bool ?_, hbw.trans (hb4.mono hbw.size)⟩
                rw [HR.out, all_false_at _ rs k hlt HG.out]; simp
          · have HG : Hid (notAg ts L lt rs[k] = true) := by show _ = _; unfold notAg; rw [decide_eq_false hlv]; simp
            clear hne CL CH CI hc3
            generalize levI ts rs[k] = lx at *
            go_wp2_with (go_at_call 23; refine (unhide C1).mono ?_; rintro e w0 ⟨rfl, hw0⟩; subst w0)
            go_roundw
            case rel => exact ⟨k + 1, by omega, by go_num, all_take_snoc _ rs k hlt HN.out HG.out, hbel⟩
            case measure => simp [intOf]; omega
      · have hz : rs.length ≤ k := by omega
        clear CL CH CI
        go_wp2
        go_ret
        refine ⟨ret_bool ?_, hbw⟩
        rw [HR.out, all_of_take hz HN.out, Bool.and_true]
        first | exact decide_eq_decide.2 (by omega) | (exact decide_eq_decide.2 (by constructor <;> intro <;> omega))

set_option maxHeartbeats 4000000 in
set_option maxRecDepth 100000 in
theorem refShorten_any (w : World) (a b : Option Addr) (ca cb : Nat) (ts : List As) (L : List Int) (h : Trl w a ts) (h20 : ts.length ≤ 20) (hcap : ts.length ≤ ca) (hcm : ca ≤ maxLen) (hrl : ∀ i, i < ts.length → (nth ts i).rsn.length ≤ 300) (hm : mayT ts = true) (T : Tr ts) (hr : Row w b L) (hl : L.length ≤ 7000) (hL : ∀ l ∈ L, falB ts l = true) :
    Calls Try.prog 16 #[.slice a ts.length ca, .slice b L.length cb] w fun e w' => TurnP w w' (shortL ts L) e := by
  obtain ⟨i0, hi, hz0, hz1, hz2⟩ := info_parts Try.info3
  have CM := refMay_any w a ca ts h h20 hcap hcm hrl
  rw [hm] at CM
  replace CM := hide CM
  have CB := fun w' (hb : Below w.heap.size w w') => refBreaks_any w' a b ca cb ts L (h.below hb) h20 T.dst T.vl (hr.below hb) (by unfold maxLen; omega)
  have eall : L.all (fun l => falB ts l) = true := by rw [List.all_eq_true]; exact hL
  rw [eall] at CB
  replace CB := hide CB
  have CL := hide (fun w' (hb : Below w.heap.size w w') x hx => refLevel_any w' a ca ts x (h.below hb) h20 T hx)
  have CI := hide (fun w' (hb : Below w.heap.size w w') x (hx : falB ts x = true) => refIdle_any ts L T h20 hl a b ca cb (pl ts x + 1) w' x (h.below hb) (hr.below hb) hx (by omega))
  have HZ : Hid (∀ x, falB ts x = true → ¬ 0 < levI ts x → idleAt ts L (pl ts x) = true) := by
    intro x hx h0
    have h1 := T.fal hx
    have h2 := T.lev_bd _ h1.1
    unfold levI at h0
    exact idle_zero T L _ _ (Nat.lt_succ_self _) h1.1 (by omega)
  clear eall h T
  go_enter Try.func16, Try.ntmps16
  go_upto_region 5 with (first
    | (go_at_call 28; refine (unhide CM).mono ?_; rintro e w1 ⟨rfl, hb1⟩)
    | (go_at_call 22; refine (unhide CB _ hb1).mono ?_; rintro e w0 ⟨rfl, n, hw0⟩; subst w0))
  have hb1n : Below w.heap.size w (w1.drewN n) := below_drewN hb1 n
  have ho0 : Own w.heap.size ((w1.drewN n).alloc (.cells #[] 3)) (.slice (some ⟨w1.heap.size, 0, none⟩) 0 0) [] := World.ownsRow_lit (e := 3) (size := 1) (w1.drewN n) #[] 0 hb1.size (Nat.zero_le _) rfl
  have hb2 : Below w.heap.size w ((w1.drewN n).alloc (.cells #[] 3)) := hb1n.alloc hb1n.size _
  have HO0 := hide ho0
  have HB2 := hide hb2
  clear ho0 hb2 hb1n hb1 CM CB
  go_loopw [5, 6] (fun v i wr => ∃ k : Nat, k ≤ L.length ∧ i = .int .i64 k ∧ Own w.heap.size wr v (shortTo ts L k) ∧ v ≠ .slice none 0 0 ∧ Below w.heap.size w wr) (fun _ i _ => L.length - (intOf i).toNat)
  case atStart => exact ⟨0, Nat.zero_le _, rfl, HO0.out, by simp, HB2.out⟩
  case round =>
    clear HO0 HB2
    obtain ⟨k, hk, rfl, hown, hnn, hbel⟩ := hrel
    by_cases hlt : k < L.length
    · obtain ⟨b1, off1, rfl, hbl, hc⟩ := hr k hlt
      have hc' := (hbel.cell (p := ⟨b1, off1 + k, none⟩) hbl).trans hc
      have hsl := short_len ts L k
      have hlt' : (k : Int) < L.length := by omega
      by_cases hk0 : k = 0
      · subst hk0
        have HY := hide (short_yes (ts := ts) (L := L) keep_zero)
        rw [getD_at hlt] at HY
        clear hr hc hbl CL CI HZ
        simp only [Nat.add_zero] at hc'
        go_wp2_with (at_builtin; refine wpList_append_own _ rfl _ _ 23 rfl w.heap.size 3 i0 (.int .i64 0) 1 8 Try.underlying23 hi hz0 hz1 hz2 rfl (by decide) _ _ _ rfl (hown.alloc _) ⟨wr.heap.size, 0, none⟩ 1 1 [.int .i64 L[0]] rfl rfl (cell_one_new _ _ _) (fun x hx => by simp at hx; subst hx; rfl) (by unfold maxLen; omega) (by omega) (by have := hbel.size; simp; omega) ?_; intro v' w5 hown5 hgrow5 hnil5)
        have hnn5 : v' ≠ .slice none 0 0 := fun h => absurd (hnil5.1 h).2 (by decide)
        have hown6 := own_snoc hown5 HY.out
        have hbel5 := ((hbel.alloc hbel.size (.cells #[.int .i64 L[0]] 3)).grown hgrow5 (by have := hbel.size; simp; omega) (fun g hg => (hown.lt g hg).1))
        clear hown5 hgrow5 hnil5
        go_wp2
        go_roundw
        case rel => exact ⟨0 + 1, by omega, by go_num, hown6, hnn5, hbel5⟩
        case measure => simp [intOf]; omega
      · have hf := hL _ (List.getElem_mem hlt)
        have hq : ((k : Int) == 0) = false := by simp; omega
        have C1 := hide ((unhide CL) wr hbel L[k] hf)
        have HK := hide (keep_succ (ts := ts) hlt hk0)
        by_cases hlv : 0 < levI ts L[k]
        · have C2 := (unhide CI) wr hbel L[k] hf
          clear hr hc hbl CL CI HZ hf
          generalize levI ts L[k] = lx at *
          generalize hid : idleAt ts L (pl ts L[k]) = id at *
          replace C2 := hide C2
          cases id
          · have HY := hide (short_yes (ts := ts) (L := L) HK.out)
            rw [getD_at hlt] at HY
            clear HK hid
            go_wp2_with (first
              | (go_at_call 23; refine (unhide C1).mono ?_; rintro e w0 ⟨rfl, hw0⟩; subst w0)
              | (go_at_call 40; refine (unhide C2).mono ?_; rintro e w4 ⟨rfl, hb4⟩; have hc4 := (hb4.cell (p := ⟨b1, off1 + k, none⟩) (World.block_lt_of_cell? wr _ hc')).trans hc'; have hown4 := hown.below hb4; have hbel4 := hbel.trans (hb4.mono hbel.size))
              | (at_builtin; refine wpList_append_own _ rfl _ _ 23 rfl w.heap.size 3 i0 (.int .i64 0) 1 8 Try.underlying23 hi hz0 hz1 hz2 rfl (by decide) _ _ _ rfl (hown4.alloc _) ⟨w4.heap.size, 0, none⟩ 1 1 [.int .i64 L[k]] rfl rfl (cell_one_new _ _ _) (fun x hx => by simp at hx; subst hx; rfl) (by unfold maxLen; omega) (by omega) (by have := hbel4.size; simp; omega) ?_; intro v' w5 hown5 hgrow5 hnil5))
            have hnn5 : v' ≠ .slice none 0 0 := fun h => absurd (hnil5.1 h).2 (by decide)
            have hown6 := own_snoc hown5 HY.out
            have hbel5 := ((hbel4.alloc hbel4.size (.cells #[.int .i64 L[k]] 3)).grown hgrow5 (by have := hbel4.size; simp; omega) (fun g hg => (hown4.lt g hg).1))
            clear hown5 hgrow5 hnil5
            go_wp2
            go_roundw
            case rel => exact ⟨k + 1, by omega, by go_num, hown6, hnn5, hbel5⟩
            case measure => simp [intOf]; omega
          · have HY := hide (short_no (ts := ts) (L := L) HK.out)
            clear HK hid
            go_wp2_with (first
              | (go_at_call 23; refine (unhide C1).mono ?_; rintro e w0 ⟨rfl, hw0⟩; subst w0)
              | (go_at_call 40; refine (unhide C2).mono ?_; rintro e w4 ⟨rfl, hb4⟩))
            go_roundw
            case rel => exact ⟨k + 1, by omega, by go_num, by rw [HY.out]; exact hown.below hb4, hnn, hbel.trans (hb4.mono hbel.size)⟩
            case measure => simp [intOf]; omega
        · have hidt := HZ.out _ hf (by omega)
          rw [hidt] at HK
          have HY := hide (short_no (ts := ts) (L := L) HK.out)
          clear hr hc hbl CL CI HZ hf HK hidt
          generalize levI ts L[k] = lx at *
          go_wp2_with (go_at_call 23; refine (unhide C1).mono ?_; rintro e w0 ⟨rfl, hw0⟩; subst w0)
          go_roundw
          case rel => exact ⟨k + 1, by omega, by go_num, by rw [HY.out]; exact hown, hnn, hbel⟩
          case measure => simp [intOf]; omega
    · have hz : k = L.length := by omega
      subst hz
      clear hr CL CI HZ
      go_wp2
      go_ret
      exact ⟨_, rfl, hown, hnn, hbel⟩

end Go.Proofs.Ytaepanmkofhgoaa
