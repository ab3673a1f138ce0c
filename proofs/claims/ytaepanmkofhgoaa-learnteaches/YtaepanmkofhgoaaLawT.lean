/- The law: what is learned follows, is broken by the trail, and has one literal of the broken clause's level, or none. -/
import Derived.Test.YtaepanmkofhgoaaWalkR
import Derived.Test.YtaepanmkofhgoaaWalkV
import Derived.Test.YtaepanmkofhgoaaLawC
import Derived.Test.YtaepanmkofhgoaaPlainV
set_option linter.unusedVariables false
set_option linter.unusedSimpArgs false
namespace Go.Proofs.Ytaepanmkofhgoaa
open Go.RowKit

theorem fal_of_may {ts : List As} {c : List Int} (h : mayLB ts c = true) : mayT ts = true ∧ ∀ l ∈ c, falB ts l = true := by
  unfold mayLB brkB at h
  simp only [Bool.and_eq_true, List.all_eq_true] at h
  exact ⟨h.1, h.2.2⟩

/-- Does an assignment hold by a model? -/
def okM (m : List Int) (x : As) : Bool := (valI m x.lit != 0) && (decide ((x.rsn.length : Int) = 0) || clauseI m x.rsn == 1)
/-- Do a clause and the first assignments hold? -/
def hB (m c : List Int) (ts : List As) (k : Nat) : Bool := (clauseI m c == 1) && (List.range k).all (fun i => okM m (nth ts i))
theorem hB_succ (m c : List Int) (ts : List As) (k : Nat) : hB m c ts (k + 1) = (hB m c ts k && okM m (nth ts k)) := by
  unfold hB; rw [List.range_succ, List.all_append]; simp [Bool.and_assoc]
theorem hB_end {m c : List Int} {ts : List As} (h : hB m c ts ts.length = true) : clauseI m c = 1 ∧ Mdl ts m := by
  unfold hB at h
  simp only [Bool.and_eq_true, List.all_eq_true, List.mem_range, beq_iff_eq] at h
  refine ⟨h.1, ⟨fun i hi => ?_⟩⟩
  have := h.2 i hi
  unfold okM at this
  simp only [Bool.and_eq_true, Bool.or_eq_true, beq_iff_eq, decide_eq_true_eq] at this
  rcases this.2 with h0 | h1
  · left; exact List.length_eq_zero_iff.1 (by omega)
  · exact .inr h1

/-- What is known in the midst of the law. -/
structure TM (w W : World) (ts : List As) (c m Y Z : List Int) (a b d a2 a3 : Option Addr) : Prop where
  bel : Below w.heap.size w W
  tr : Trl W a ts
  rc : Row W b c
  rm : Row W d m
  ry : Row W a2 Y
  rz : Row W a3 Z

set_option maxHeartbeats 8000000 in
set_option maxRecDepth 100000 in
theorem teaches_any (w : World) (a b d : Option Addr) (ca cb cd : Nat) (ts : List As) (c m : List Int) (h : TrI w a ca ts) (hr : Row w b c) (hc : c.length ≤ maxLen) (hd : Row w d m) (hm : m.length ≤ maxLen) :
    Calls Try.prog 6 #[.slice a ts.length ca, .slice b c.length cb, .slice d m.length cd] w fun e w' => e = .returned (.bool true) ∧ Below w.heap.size w w' := by
  have CA := hide (fun w' => awake_any w')
  have CL := hide (light_any w a b ca cb ts c h.tr h.len hc)
  go_enter Try.func6, Try.ntmps6
  go_wp2_with fail
  refine (unhide CL).mono ?_
  rintro e w0 ⟨⟨r, rfl, hr1⟩, hw0⟩
  subst w0
  cases r
  · clear hr1 CL h hr hd
    go_wp2_with (go_at_call 9; refine (unhide CA _).mono ?_; rintro e w1 ⟨rfl, hb⟩)
    go_ret
    exact ⟨rfl, hb⟩
  · obtain ⟨h20, h100, hrl⟩ := hr1 rfl
    have CM := lawMay_any w a b ca cb ts c h hr h20 h100 hrl
    by_cases hmm : mayLB ts c = true
    · rw [hmm] at CM
      replace CM := hide CM
      obtain ⟨hmt, hff⟩ := fal_of_may hmm
      have T := Tr.of ((mayT_iff (by omega)).1 hmt)
      have LN := Lrn.of T h20 hff h100
      have hlen := LN.len
      have hnd := RB_nodup LN.srt
      have hss := short_len ts (learnL ts c) (learnL ts c).length
      have hss2 : (shortL ts (learnL ts c)).length ≤ (learnL ts c).length := by unfold shortL; omega
      have HTY := hide (fun M hc1 => learn_true (m := m) T M hff h100 hc1)
      have HTZ := hide (fun M hc1 => short_true (m := m) (L := learnL ts c) T M LN.fal hc1)
      have CN := hide (fun w' (hb : Below w.heap.size w w') => learn_yes w' a b ca cb ts c (h.tr.below hb) h20 (hr.below hb) h100 hmm)
      have CS := hide (fun w' (hb : Below w.heap.size w w') b' cb' (hr' : Row w' b' (learnL ts c)) => shorten_any w' a b' ca cb' ts (learnL ts c) (h.tr.below hb) h20 hmt hr' (by omega) LN.fal hnd)
      have HLN := hide LN
      have hfZ : Hid (∀ l ∈ shortL ts (learnL ts c), falB ts l = true) := fun l hl => LN.fal l (short_sub hl)
      have CB := hide (fun w' (hb : Below w.heap.size w w') b' cb' xs (hr' : Row w' b' xs) (hx : xs.length ≤ 7000) (hfx : ∀ l ∈ xs, falB ts l = true) => (show Calls Try.prog 22 #[.slice a ts.length ca, .slice b' xs.length cb'] w' fun e w'' => e = .returned (.bool true) ∧ ∃ n, w'' = w'.drewN n from by
        have := refBreaks_any w' a b' ca cb' ts xs (h.tr.below hb) h20 T.dst T.vl hr' (by unfold maxLen; omega)
        have e : xs.all (fun l => falB ts l) = true := by rw [List.all_eq_true]; exact hfx
        rw [e] at this
        exact this))
      clear hr1 CL hmm hrl hnd hss LN
      generalize hZe : shortL ts (learnL ts c) = Z at *
      generalize hYe : learnL ts c = Y at *
      go_wp2_with (first
        | (go_at_call 11; refine (unhide CM).mono ?_; rintro e w1 ⟨rfl, hb1⟩)
        | (go_at_call 12; refine (unhide CN _ hb1).mono ?_; rintro e w2 ⟨v2, rfl, ho2, hn2, hb2⟩; obtain ⟨a2, c2, rfl, hr2⟩ := Own.row' ho2; have hb02 := hb1.trans (hb2.mono hb1.size); clear ho2 hn2)
        | (go_at_call 15; refine (unhide CS _ hb02 _ _ hr2).mono ?_; rintro e w3 ⟨v3, rfl, ho3, hn3, hb3⟩; obtain ⟨a3, c3, rfl, hr3⟩ := Own.row' ho3; have hb03 := hb02.trans (hb3.mono hb02.size); have hr23 := hr2.below hb3; clear ho3 hn3))
      refine (unhide CB w3 hb03 a2 c2 Y hr23 (by omega) (fun l hl => HLN.out.fal l (by rw [hYe]; exact hl))).mono ?_
      rintro e w0 ⟨rfl, n4, hw0⟩
      subst w0
      have hb4 := below_drewN hb03 n4
      have hr34 := hr3.below (below_drew w3 n4)
      have hr24 := hr23.below (below_drew w3 n4)
      clear CM CN CS
      go_wp2_with fail
      refine (unhide CB (w3.drewN n4) hb4 a3 c3 Z hr34 (by omega) hfZ.out).mono ?_
      rintro e w0 ⟨rfl, n5, hw0⟩
      subst w0
      have hb5 := below_drewN hb4 n5
      have hgt : ¬ (Y.length : Int) < Z.length := by omega
      refine forget (I := fun z => TM w z ts c m Y Z a b d a2 a3) ⟨hb5, h.tr.below hb5, hr.below hb5, hd.below hb5, hr24.below (below_drew _ n5), hr34.below (below_drew _ n5)⟩ ?_
      rintro W TMW
      have HTM := hide TMW
      have CLV := hide (fun l hl => refLevel_any W a ca ts l TMW.tr h20 T hl)
      have CCL := hide (fun b' cb' xs (hr' : Row W b' xs) (hx : xs.length ≤ 7000) => refClause_any d b' cd cb' m xs W TMW.rm hr' hm (by unfold maxLen; omega))
      have CVL := hide (fun l => refValue_any d cd m l W TMW.rm hm)
      have hrc := TMW.rc
      have hry := TMW.ry
      have hrz := TMW.rz
      have htr := TMW.tr
      clear TMW CB hr2 hr3 hr23 hr24 hr34 hb5 hb4 hb03 hb02 hb1 hb2 hb3 hfZ h hr hd
      unfold maxLen at hc
      go_upto_region 9 with fail
      go_loop [10, 11] (fun lv i => ∃ k : Nat, k ≤ c.length ∧ i = .int .i64 k ∧ lv = .int .i64 (grt ts (c.take k))) (fun _ i => c.length - (intOf i).toNat)
      case atStart => exact ⟨0, Nat.zero_le _, rfl, rfl⟩
      case round =>
        obtain ⟨k, hk, rfl, rfl⟩ := hrel
        by_cases hlt : k < c.length
        · obtain ⟨b3, off3, rfl, hb3, hc3⟩ := hrc k hlt
          have C := hide ((unhide CLV) c[k] (hff _ (List.getElem_mem hlt)))
          have HT := hide (grt_take (ts := ts) hlt)
          have hlt' : (k : Int) < c.length := by omega
          clear HTM CLV CCL CVL hrc hry hrz htr HTY HTZ HLN T hff hYe hZe
          generalize grt ts (c.take k) = mm at *
          generalize levI ts c[k] = le at *
          by_cases hg : mm < le
          · have HT2 : Hid (grt ts (c.take (k + 1)) = le) := by show _ = _; rw [HT.out]; omega
            go_wp2_with (go_at_call 23; refine (unhide C).mono ?_; rintro e w0 ⟨rfl, hw0⟩; subst w0)
            go_round
            case rel => exact ⟨k + 1, by omega, by go_num, by rw [HT2.out]⟩
            case measure => simp [intOf]; omega
          · have HT2 : Hid (grt ts (c.take (k + 1)) = mm) := by show _ = _; rw [HT.out]; omega
            go_wp2_with (go_at_call 23; refine (unhide C).mono ?_; rintro e w0 ⟨rfl, hw0⟩; subst w0)
            go_round
            case rel => exact ⟨k + 1, by omega, by go_num, by rw [HT2.out]⟩
            case measure => simp [intOf]; omega
        · have hz : c.take k = c := List.take_of_length_le (by omega)
          rw [hz]
          clear hz
          have hg0 : 0 ≤ grt ts c := (grt_ge c 0).1
          have HTOP : Hid (∀ i (hi : i < Y.length), levI ts Y[i] = grt ts c ↔ i = 0) := by
            intro i hi
            subst hYe
            rcases (by omega : grt ts c = 0 ∨ 0 < grt ts c) with e0 | hp
            · exfalso; have e9 := HLN.out.zero e0; rw [e9] at hi; simp at hi
            · exact HLN.out.top hp i hi
          have HZER : grt ts c = 0 → Y.length = 0 := fun e0 => by rw [← hYe, HLN.out.zero e0]; rfl
          have HFY : Hid (∀ l ∈ Y, falB ts l = true) := fun l hl => HLN.out.fal l (by rw [hYe]; exact hl)
          have HEND : Hid (hB m c ts ts.length = true → clauseI m Y = 1 ∧ clauseI m Z = 1) := by
            intro e
            obtain ⟨h1, h2⟩ := hB_end e
            have h3 := HTY.out h2 h1
            exact ⟨h3, HTZ.out h2 h3⟩
          clear HTY HTZ HLN hYe hZe
          generalize grt ts c = lv at *
          have hz0 : ¬ (lv = 0 ∧ (0 : Int) < Y.length) := by rintro ⟨e, h1⟩; have := HZER e; omega
          by_cases hlv0 : lv = 0
          all_goals
            first
              | (have hq : (lv == 0) = true := by simpa using hlv0
                 have hy1 : ¬ (0 : Int) < Y.length := by have hy0 := HZER hlv0; omega)
              | (have hq : (lv == 0) = false := by simpa using hlv0)
            clear HZER hz0 hlv0
            go_upto_region 16 with fail
            go_loop [12] (fun i => ∃ k2 : Nat, k2 ≤ Y.length ∧ i = .int .i64 k2) (fun i => Y.length - (intOf i).toNat)
            case atStart => exact ⟨0, Nat.zero_le _, rfl⟩
            case round =>
              obtain ⟨k2, hk2, rfl⟩ := hrel
              by_cases hlt2 : k2 < Y.length
              · obtain ⟨b3, off3, rfl, hb3, hc3⟩ := hry k2 hlt2
                have C := hide ((unhide CLV) Y[k2] (HFY.out _ (List.getElem_mem hlt2)))
                have hlt2' : (k2 : Int) < Y.length := by omega
                have ht := HTOP.out k2 hlt2
                by_cases hk0 : k2 = 0
                · have hq1 : (levI ts Y[k2] == lv) = true := by simpa using ht.2 hk0
                  have hq2 : ((k2 : Int) == 0) = true := by simp [hk0]
                  clear HTM CLV CCL CVL hrc hry hrz htr HTOP HEND HFY T hff ht hk0
                  generalize levI ts Y[k2] = le at *
                  go_wp2_with (go_at_call 23; refine (unhide C).mono ?_; rintro e w0 ⟨rfl, hw0⟩; subst w0)
                  go_round
                  case rel => exact ⟨k2 + 1, by omega, by go_num⟩
                  case measure => simp [intOf]; omega
                · have hq1 : (levI ts Y[k2] == lv) = false := by simpa using fun e => hk0 (ht.1 e)
                  have hq2 : ((k2 : Int) == 0) = false := by simpa using hk0
                  clear HTM CLV CCL CVL hrc hry hrz htr HTOP HEND HFY T hff ht hk0
                  generalize levI ts Y[k2] = le at *
                  go_wp2_with (go_at_call 23; refine (unhide C).mono ?_; rintro e w0 ⟨rfl, hw0⟩; subst w0)
                  go_round
                  case rel => exact ⟨k2 + 1, by omega, by go_num⟩
                  case measure => simp [intOf]; omega
              · have CC := hide ((unhide CCL) b cb c hrc (by omega))
                have HB0 : Hid (hB m c ts 0 = (clauseI m c == 1)) := by show _ = _; simp [hB]
                clear CLV HTOP hry hrc
                generalize hcm : clauseI m c = cm at CC HB0 ⊢
                clear hcm
                go_upto_region 22 with (go_at_call 24; refine (unhide CC).mono ?_; rintro e w0 ⟨rfl, hw0⟩; subst w0)
                go_loop [13, 14] (fun hb i => ∃ k3 : Nat, k3 ≤ ts.length ∧ i = .int .i64 k3 ∧ hb = .bool (hB m c ts k3)) (fun _ i => ts.length - (intOf i).toNat)
                case atStart => exact ⟨0, Nat.zero_le _, rfl, by rw [HB0.out]⟩
                case round =>
                  clear CC HB0
                  obtain ⟨k3, hk3, rfl, rfl⟩ := hrel
                  by_cases hlt3 : k3 < ts.length
                  · obtain ⟨b4, off4, ea, hA⟩ := htr k3 hlt3
                    obtain ⟨ra, rc, h2, hrow⟩ := hA.c2
                    have hA0 := hA.c0
                    have hAl := hA.len
                    unfold maxLen at hAl
                    have HS := hide (hB_succ m c ts k3)
                    have hlt3' : (k3 : Int) < ts.length := by omega
                    have CV := hide ((unhide CVL) (nth ts k3).lit)
                    have hrl3 := T.rsn_len hlt3
                    have CC := hide ((unhide CCL) ra rc (nth ts k3).rsn hrow (by omega))
                    subst ea
                    have HOK : Hid (okM m (nth ts k3) = ((valI m (nth ts k3).lit != 0) && (decide (((nth ts k3).rsn.length : Int) = 0) || clauseI m (nth ts k3).rsn == 1))) := rfl
                    clear HTM CCL CVL hrz htr HEND HFY T hff hrow hA
                    generalize okM m (nth ts k3) = ok at *
                    generalize valI m (nth ts k3).lit = vl at *
                    generalize clauseI m (nth ts k3).rsn = cl at *
                    generalize (nth ts k3).lit = lt at *
                    generalize (nth ts k3).rsn.length = rn at *
                    generalize hB m c ts k3 = hb at *
                    cases hb
                    · go_wp2
                      go_round
                      case rel => exact ⟨k3 + 1, by omega, by go_num, by rw [HS.out]; rfl⟩
                      case measure => simp [intOf]; omega
                    · by_cases hv : vl = 0
                      · have hq3 : (vl != 0) = false := by simpa using hv
                        have HS2 : Hid (hB m c ts (k3 + 1) = false) := by show _ = _; rw [HS.out, HOK.out, hq3]; rfl
                        clear hv
                        go_wp2_with (go_at_call 25; refine (unhide CV).mono ?_; rintro e w0 ⟨rfl, hw0⟩; subst w0)
                        go_round
                        case rel => exact ⟨k3 + 1, by omega, by go_num, by rw [HS2.out]⟩
                        case measure => simp [intOf]; omega
                      · have hq3 : (vl != 0) = true := by simpa using hv
                        by_cases hn : (rn : Int) = 0
                        · have hq4 : ((rn : Int) == 0) = true := by simpa using hn
                          have HS2 : Hid (hB m c ts (k3 + 1) = true) := by show _ = _; rw [HS.out, HOK.out, hq3, decide_eq_true hn]; rfl
                          clear hv hn
                          go_wp2_with (go_at_call 25; refine (unhide CV).mono ?_; rintro e w0 ⟨rfl, hw0⟩; subst w0)
                          go_round
                          case rel => exact ⟨k3 + 1, by omega, by go_num, by rw [HS2.out]⟩
                          case measure => simp [intOf]; omega
                        · have hq4 : ((rn : Int) == 0) = false := by simpa using hn
                          have HS2 : Hid (hB m c ts (k3 + 1) = (cl == 1)) := by show _ = _; rw [HS.out, HOK.out, hq3, decide_eq_false hn]; simp
                          clear hv hn
                          go_wp2_with (first | (go_at_call 25; refine (unhide CV).mono ?_; rintro e w0 ⟨rfl, hw0⟩; subst w0) | (go_at_call 24; refine (unhide CC).mono ?_; rintro e w0 ⟨rfl, hw0⟩; subst w0))
                          go_round
                          case rel => exact ⟨k3 + 1, by omega, by go_num, by rw [HS2.out]⟩
                          case measure => simp [intOf]; omega
                  · have hz3 : k3 = ts.length := by omega
                    subst hz3
                    have CY := (unhide CCL) a2 c2 Y HTM.out.ry (by omega)
                    have CZ := (unhide CCL) a3 c3 Z hrz (by omega)
                    have HBW := hide HTM.out.bel
                    have hend := HEND.out
                    clear HTM CCL CVL hrz htr HEND HFY T hff
                    generalize hB m c ts ts.length = hb at *
                    cases hb
                    · clear hend CY CZ
                      go_wp2_with (go_at_call 9; refine (unhide CA _).mono ?_; rintro e w8 ⟨rfl, hb8⟩)
                      go_ret
                      exact ⟨rfl, HBW.out.trans (hb8.mono HBW.out.size)⟩
                    · obtain ⟨h1, h2⟩ := hend rfl
                      rw [h1] at CY
                      rw [h2] at CZ
                      replace CY := hide CY
                      replace CZ := hide CZ
                      clear hend h1 h2
                      go_wp2_with fail
                      refine (unhide CY).mono ?_
                      rintro e w0 ⟨rfl, hw0⟩
                      subst w0
                      go_wp2_with fail
                      refine (unhide CZ).mono ?_
                      rintro e w0 ⟨rfl, hw0⟩
                      subst w0
                      go_wp2_with (go_at_call 9; refine (unhide CA _).mono ?_; rintro e w8 ⟨rfl, hb8⟩)
                      go_ret
                      exact ⟨rfl, HBW.out.trans (hb8.mono HBW.out.size)⟩
    · have hm' : mayLB ts c = false := by simpa using hmm
      rw [hm'] at CM
      replace CM := hide CM
      clear hr1 CL h hr hmm hm' hrl hd
      go_wp2_with (first | (go_at_call 11; refine (unhide CM).mono ?_; rintro e w1 ⟨rfl, hb1⟩) | (go_at_call 9; refine (unhide CA _).mono ?_; rintro e w2 ⟨rfl, hb2⟩))
      go_ret
      exact ⟨rfl, hb1.trans (hb2.mono hb1.size)⟩

end Go.Proofs.Ytaepanmkofhgoaa
