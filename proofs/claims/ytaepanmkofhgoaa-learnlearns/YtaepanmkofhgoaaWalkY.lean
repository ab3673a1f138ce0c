/- Contract: what is learned of a broken clause, by the document. -/
import Derived.Test.YtaepanmkofhgoaaWalkX
set_option linter.unusedVariables false
set_option linter.unusedSimpArgs false
namespace Go.Proofs.Ytaepanmkofhgoaa
open Go.RowKit

set_option maxHeartbeats 8000000 in
set_option maxRecDepth 100000 in
theorem refLearn_any (w : World) (a b : Option Addr) (ca cb : Nat) (ts : List As) (c : List Int) (h : Trl w a ts) (h20 : ts.length ≤ 20) (T : Tr ts) (hr : Row w b c) (hf : ∀ l ∈ c, falB ts l = true) (hl : c.length ≤ 100) :
    Calls Try.prog 13 #[.slice a ts.length ca, .slice b c.length cb] w fun e w' => TurnP w w' (learnL ts c) e := by
  obtain ⟨i0, hi, hz0, hz1, hz2⟩ := info_parts Try.info3
  have CO := hide (order_nn b cb c w hr (by omega) (lits_of_fal T hf))
  have CLV := hide (fun w' (hb : Below w.heap.size w w') l hl => refLevel_any w' a ca ts l (h.below hb) h20 T hl)
  have hSt := InvL.start T hf hl
  have hll := (Lrn.of T h20 hf hl).len
  have HG : Hid (grt ts (order c) = grt ts c) := grt_same (fun x => order_mem)
  have HLS : Hid (loopL ts (grt ts c) ts.length (order c) = learnS ts c) := rfl
  have COD := hide (fun w' (hb : Below w.heap.size w w') b' cb' S (hr' : Row w' b' S) (hO : Ordered S) (hfS : ∀ l ∈ S, falB ts l = true) hlS hlt => refOrdered_any w' a b' ca cb' ts S (h.below hb) h20 T hr' hO hfS hlS hlt)
  have hol : ∀ l ∈ order c, falB ts l = true := fun l hl => hf l (order_mem.1 hl)
  have hoL := order_len c
  have hg0 : 0 ≤ grt ts c := (grt_ge c 0).1
  go_enter Try.func13, Try.ntmps13
  go_upto_region 4 with (go_at_call 32; refine (unhide CO).mono ?_; rintro e w1 ⟨v1, rfl, hown1, hnn1, hb1⟩)
  obtain ⟨g1, c1, rfl, hg1, hgl1, _⟩ := hown1.src hnn1
  have hrow1 := own_row hown1
  have HLR : Hid (LR w w1 ts c (grt ts c) ts.length (.slice (some ⟨g1, 0, none⟩) (order c).length c1) (order c)) := ⟨hown1, hnn1, hSt, HLS.out, hb1⟩
  clear CO hown1 hnn1 hSt HLS
  go_loop [6, 7] (fun lv i => ∃ k : Nat, k ≤ (order c).length ∧ i = .int .i64 k ∧ lv = .int .i64 (grt ts ((order c).take k))) (fun _ i => (order c).length - (intOf i).toNat)
  case atStart => exact ⟨0, Nat.zero_le _, rfl, rfl⟩
  case round =>
    obtain ⟨k, hk, rfl, rfl⟩ := hrel
    by_cases hlt : k < (order c).length
    · obtain ⟨b3, off3, e3, hb3, hc3⟩ := hrow1 k hlt
      cases e3
      simp only [Nat.zero_add] at hc3
      have C := hide ((unhide CLV) w1 hb1 (order c)[k] (hol _ (List.getElem_mem hlt)))
      have HT := hide (grt_take (ts := ts) hlt)
      have hlt' : (k : Int) < (order c).length := by omega
      clear HLR hrow1 CLV COD HG hol h hr T hf
      generalize grt ts ((order c).take k) = m at *
      generalize levI ts (order c)[k] = le at *
      by_cases hg : m < le
      · have HT2 : Hid (grt ts ((order c).take (k + 1)) = le) := by show _ = _; rw [HT.out]; omega
        go_wp2_with (go_at_call 23; refine (unhide C).mono ?_; rintro e w0 ⟨rfl, hw0⟩; subst w0)
        go_round
        case rel => exact ⟨k + 1, by omega, by go_num, by rw [HT2.out]⟩
        case measure => simp [intOf]; omega
      · have HT2 : Hid (grt ts ((order c).take (k + 1)) = m) := by show _ = _; rw [HT.out]; omega
        go_wp2_with (go_at_call 23; refine (unhide C).mono ?_; rintro e w0 ⟨rfl, hw0⟩; subst w0)
        go_round
        case rel => exact ⟨k + 1, by omega, by go_num, by rw [HT2.out]⟩
        case measure => simp [intOf]; omega
    · have hz : (order c).take k = order c := List.take_of_length_le (by omega)
      rw [hz, HG.out]
      have hn1 : (1 : Int) ≤ (ts.length : Int) + 1 := by omega
      clear hz hrow1
      have HLL : Hid ((turn ts (learnS ts c)).length ≤ 7000) := by have := hll; unfold learnL at this; show _ ≤ _; omega
      generalize hlv : grt ts c = lv at *
      go_upto_region 9 with fail
      generalize hv1 : Value.slice (some ⟨g1, 0, none⟩) (order c).length c1 = v1 at HLR
      go_loopw [5, 8] (fun u i wr => ∃ (q : Nat) (v : Int) (S : List Int), i = .int .i64 v ∧ v = (q : Int) - 1 ∧ LR w wr ts c lv q u S) (fun _ i _ => (intOf i + 1).toNat)
      case atStart => exact ⟨ts.length, (ts.length : Int) - 1, order c, rfl, rfl, by first | exact HLR.out | (rw [hv1]; exact HLR.out)⟩
      case round =>
        clear HLR hv1
        obtain ⟨q, v, S, rfl, hv, L⟩ := hrel
        have hfS : ∀ l ∈ S, falB ts l = true := fun l hl => (L.inv.lev T hl).1
        have hsl := L.inv.len
        have hil := L.inv.il
        obtain ⟨gS, cS, rfl, hgS, hglS, _⟩ := L.own.src L.nn
        have hrowS := own_row L.own
        have hcapS : S.length ≤ cS := by obtain ⟨_, _, e, _, _, h⟩ := L.own.row; cases e; exact h
        cases q with
        | zero =>
          have hneg : v < 0 := by omega
          have HE := hide L.same
          have CD := hide ((unhide COD) wr L.bel (some ⟨gS, 0, none⟩) cS S hrowS L.inv.ord hfS (by omega) (by have := HLL.out; rw [← L.same] at this; simpa [loopL] using this))
          have HB := hide L.bel
          clear L hrowS COD CLV hv
          go_wp2_with (go_at_call 35; refine (unhide CD).mono ?_; rintro e w9 ⟨v9, rfl, ho9, hn9, hb9⟩)
          go_ret
          refine ⟨v9, rfl, ?_, hn9, HB.out.trans (hb9.mono HB.out.size)⟩
          have e1 : learnL ts c = turn ts S := by unfold learnL; rw [← HE.out]; rfl
          rw [e1]
          exact ho9.mono HB.out.size
        | succ i =>
          obtain rfl : v = (i : Int) := by omega
          clear hv
          have HL := hide L
          have hbel := L.bel
          clear L
          go_upto_region 13 with fail
          go_loop [9, 10] (fun n j => ∃ k2 : Nat, k2 ≤ S.length ∧ j = .int .i64 k2 ∧ n = .int .i64 ((cnt ts lv (S.take k2) : Nat) : Int)) (fun _ j => S.length - (intOf j).toNat)
          case atStart => exact ⟨0, Nat.zero_le _, rfl, rfl⟩
          case round =>
            obtain ⟨k2, hk2, rfl, rfl⟩ := hrel
            by_cases hlt2 : k2 < S.length
            · obtain ⟨b3, off3, e3, hb3, hc3⟩ := hrowS k2 hlt2
              cases e3
              simp only [Nat.zero_add] at hc3
              have C := (unhide CLV) wr hbel S[k2] (hfS _ (List.getElem_mem hlt2))
              have HT := hide (cnt_take (ts := ts) (lv := lv) hlt2)
              have hlt2' : (k2 : Int) < S.length := by omega
              have hcl := cnt_le ts lv (S.take k2)
              have hcl2 : (S.take k2).length ≤ k2 := List.length_take_le _ _
              clear hrowS CLV COD HL
              generalize cnt ts lv (S.take k2) = cn at *
              by_cases he : levI ts S[k2] = lv
              · rw [he] at C
                replace C := hide C
                have HT2 : Hid (cnt ts lv (S.take (k2 + 1)) = cn + 1) := by show _ = _; rw [HT.out, if_pos he]
                clear HT he
                go_wp2_with (go_at_call 23; refine (unhide C).mono ?_; rintro e w0 ⟨rfl, hw0⟩; subst w0)
                go_round
                case rel => exact ⟨k2 + 1, by omega, by go_num, by rw [HT2.out]; go_num⟩
                case measure => simp [intOf]; omega
              · have heb : (levI ts S[k2] == lv) = false := by simpa using he
                have HT2 : Hid (cnt ts lv (S.take (k2 + 1)) = cn) := by show _ = _; rw [HT.out, if_neg he]; rfl
                replace C := hide C
                clear HT he
                generalize levI ts S[k2] = le at *
                go_wp2_with (go_at_call 23; refine (unhide C).mono ?_; rintro e w0 ⟨rfl, hw0⟩; subst w0)
                go_round
                case rel => exact ⟨k2 + 1, by omega, by go_num, by rw [HT2.out]⟩
                case measure => simp [intOf]; omega
            · have hz2 : S.take k2 = S := List.take_of_length_le (by omega)
              rw [hz2]
              clear hz2
              by_cases hs : stopB ts lv S = true
              · have HE : Hid (learnS ts c = S) := by show _ = _; rw [← HL.out.same, loopL_stop hs]
                have CD := hide ((unhide COD) wr hbel (some ⟨gS, 0, none⟩) cS S hrowS HL.out.inv.ord hfS (by omega) (by have := HLL.out; rw [HE.out] at this; exact this))
                have HB := hide hbel
                have hcases : cnt ts lv S = 0 ∨ (cnt ts lv S ≠ 0 ∧ cnt ts lv S = 1 ∧ 0 < lv) := by unfold stopB at hs; simp at hs; omega
                clear hs hrowS COD CLV HL
                generalize cnt ts lv S = cn at *
                rcases hcases with h0 | ⟨h0, h1, h2⟩
                · subst h0
                  go_wp2_with (go_at_call 35; refine (unhide CD).mono ?_; rintro e w9 ⟨v9, rfl, ho9, hn9, hb9⟩)
                  go_ret
                  refine ⟨v9, rfl, ?_, hn9, HB.out.trans (hb9.mono HB.out.size)⟩
                  unfold learnL
                  rw [HE.out]
                  exact ho9.mono HB.out.size
                · subst h1
                  go_wp2_with (go_at_call 35; refine (unhide CD).mono ?_; rintro e w9 ⟨v9, rfl, ho9, hn9, hb9⟩)
                  go_ret
                  refine ⟨v9, rfl, ?_, hn9, HB.out.trans (hb9.mono HB.out.size)⟩
                  unfold learnL
                  rw [HE.out]
                  exact ho9.mono HB.out.size
              · have hs' : stopB ts lv S = false := by simpa using hs
                have hcp := (stop_not hs').1
                have hcp2 := (stop_not hs').2
                have HE : Hid (loopL ts lv i (stepL ts i S) = learnS ts c) := by show _ = _; rw [← HL.out.same, loopL_go hs']
                have hin : i < ts.length := by omega
                have HI := hide (HL.out.inv.step T)
                have HTOP := hide (fun hh => (HL.out.inv.top T hcp hh).1)
                obtain ⟨b4, off4, ea, hA⟩ := (h.below hbel) i hin
                obtain ⟨ra, rc, h2, hrow4⟩ := hA.c2
                have hA0 := hA.c0
                have hA1 := hA.c1
                have hAl := hA.lt
                have hrl := T.rsn_len hin
                have hlit := litB_true.1 (T.vl i hin)
                have hrlits := T.rsn_lits hin
                have hin' : (i : Int) < ts.length := by omega
                have hc0 : ((cnt ts lv S : Int) == 0) = false := by simp; omega
                have hown := HL.out.own
                have HORD := hide HL.out.inv.ord
                have hlitsS := lits_of_fal T hfS
                subst ea
                by_cases h1 : cnt ts lv S = 1
                all_goals
                  first
                    | (have hc1 : ((cnt ts lv S : Int) == 1) = true := by simp [h1]
                       have hc2 : decide (0 < lv) = false := by simp; omega)
                    | (have hc1 : ((cnt ts lv S : Int) == 1) = false := by simp; omega)
                  clear h1 hs hs' hA CLV COD HL hcp hcp2
                  generalize (cnt ts lv S : Int) = cn at *
                  go_upto_region 19 with fail
                  refine forget (I := fun z => Below wr.heap.size wr z ∧ z.cell? ⟨wr.heap.size, 0, none⟩ = some (.int .i64 (nth ts i).lit) ∧ z.cell? ⟨wr.heap.size, 1, none⟩ = some (.int .i64 (nth ts i).lev) ∧ z.cell? ⟨wr.heap.size, 2, none⟩ = some (.slice ra (nth ts i).rsn.length rc)) ⟨below_alloc wr _, box_cell wr _ 38 rfl, box_cell wr _ 38 rfl, box_cell wr _ 38 rfl⟩ ?_
                  rintro w5 ⟨hb5, x0, x1, x2⟩
                  have hM := World.block_lt_of_cell? w5 _ x0
                  dsimp only at hM
                  have hrowS5 := hrowS.below hb5
                  have hrow5 := hrow4.below hb5
                  have hown5 : Own w.heap.size w5 (.slice (some ⟨gS, 0, none⟩) S.length cS) S := hown.below hb5
                  have hb05 : Below w.heap.size w w5 := hbel.trans (hb5.mono hbel.size)
                  have CH := has_any (some ⟨gS, 0, none⟩) cS S (-(nth ts i).lit) w5 hrowS5 (by unfold maxLen; omega)
                  clear hb5 hA0 hA1 h2 hAl hrowS hrow4 hown hbel
                  generalize wr.heap.size = M at *
                  by_cases hh : hasB S (-(nth ts i).lit) = true
                  · rw [hh] at CH
                    replace CH := hide CH
                    rw [HTOP.out hh] at x1
                    rw [← step_order HORD.out hh] at HE HI
                    have hlw1 := wo_len S (-(nth ts i).lit)
                    have hlw2 := wo_len (nth ts i).rsn (nth ts i).lit
                    have C1 : Hid (∀ n, Calls Try.prog 34 #[.slice (some ⟨gS, 0, none⟩) S.length cS, .int .i64 (-(nth ts i).lit)] (w5.drewN n) fun e w' => ∃ g cc, e = .returned (.slice (some ⟨g, 0, none⟩) (wo S (-(nth ts i).lit)).length cc) ∧ Own w5.heap.size w' (.slice (some ⟨g, 0, none⟩) (wo S (-(nth ts i).lit)).length cc) (wo S (-(nth ts i).lit)) ∧ Below w5.heap.size w5 w') := by
                      intro n
                      refine (refWithout_any (some ⟨gS, 0, none⟩) cS S (-(nth ts i).lit) (w5.drewN n) (hrowS5.below (below_drew w5 n)) (by omega)).mono ?_
                      rintro e w' ⟨v', rfl, ho, hn, hb⟩
                      obtain ⟨g, cc, rfl, _⟩ := ho.src hn
                      exact ⟨g, cc, rfl, ho, (below_drew w5 n).trans hb⟩
                    have C2 : Hid (∀ x, Below w5.heap.size w5 x → Calls Try.prog 34 #[.slice ra (nth ts i).rsn.length rc, .int .i64 (nth ts i).lit] x fun e w' => ∃ g cc, e = .returned (.slice (some ⟨g, 0, none⟩) (wo (nth ts i).rsn (nth ts i).lit).length cc) ∧ (∀ j u, ((wo (nth ts i).rsn (nth ts i).lit).map (Value.int .i64))[j]? = some u → w'.cell? ((⟨g, 0, none⟩ : Addr).add j) = some u) ∧ Below x.heap.size x w') := by
                      intro x hx
                      refine (refWithout_any ra rc (nth ts i).rsn (nth ts i).lit x (hrow5.below hx) (by omega)).mono ?_
                      rintro e w' ⟨v', rfl, ho, hn, hb⟩
                      obtain ⟨g, cc, rfl, _, _, hcells⟩ := ho.src hn
                      exact ⟨g, cc, rfl, hcells, hb⟩
                    have hjl : Lits (wo S (-(nth ts i).lit) ++ wo (nth ts i).rsn (nth ts i).lit) := lits_join hlitsS (fun l hl => (litB_true.1 (hrlits l hl)).2)
                    have C3 : Hid (∀ x g cc, Below w5.heap.size w5 x → Own w5.heap.size x (.slice (some ⟨g, 0, none⟩) (wo S (-(nth ts i).lit) ++ wo (nth ts i).rsn (nth ts i).lit).length cc) (wo S (-(nth ts i).lit) ++ wo (nth ts i).rsn (nth ts i).lit) → Calls Try.prog 32 #[.slice (some ⟨g, 0, none⟩) ((wo S (-(nth ts i).lit)).length + (wo (nth ts i).rsn (nth ts i).lit).length) cc] x fun e w' => ∃ v', e = .returned v' ∧ LR w w' ts c lv i v' (order (wo S (-(nth ts i).lit) ++ wo (nth ts i).rsn (nth ts i).lit)) ∧ Below w5.heap.size w5 w') := by
                      intro x g cc hx ho
                      have hlen : (wo S (-(nth ts i).lit) ++ wo (nth ts i).rsn (nth ts i).lit).length = (wo S (-(nth ts i).lit)).length + (wo (nth ts i).rsn (nth ts i).lit).length := List.length_append
                      have hc := order_nn (some ⟨g, 0, none⟩) cc _ x (own_row ho) (by omega) hjl
                      rw [hlen] at hc
                      refine hc.mono ?_
                      rintro e w' ⟨v', rfl, ho', hn', hb'⟩
                      have hbx : Below w.heap.size w x := hb05.trans (hx.mono hb05.size)
                      exact ⟨v', rfl, ⟨ho'.mono hbx.size, hn', HI.out, HE.out, hbx.trans (hb'.mono hbx.size)⟩, hx.trans (hb'.mono hx.size)⟩
                    clear HE HI hh HTOP hown5 hb05 hrowS5 hrow5 hrlits hjl hlitsS HORD
                    generalize wo S (-(nth ts i).lit) = A at *
                    generalize wo (nth ts i).rsn (nth ts i).lit = B at *
                    generalize (nth ts i).lit = lt at *
                    generalize (nth ts i).rsn.length = rn at *
                    have hwn : IntKind.i64.wrap (-lt) = -lt := by rw [IntKind.wrap_i64]; omega
                    go_upto_region 20 with (go_at_call 33; refine (unhide CH).mono ?_; rintro e w0 ⟨rfl, hw0⟩; subst w0)
                    go_region_held3 (fun z => z.cell? ⟨M, 0, none⟩ = some (.int .i64 lt) ∧ z.cell? ⟨M, 2, none⟩ = some (.slice ra rn rc)) (first | go_keep | exact ⟨by assumption, by assumption⟩) (first
                      | (go_at_call_of 34 (Value.int IntKind.i64 (-lt)); refine (unhide C1 _).mono ?_; rintro e y1 ⟨gA, cA, rfl, hoA, hbA⟩; have kA0 := (hbA.cell (p := ⟨M, 0, none⟩) hM).trans x0; have kA2 := (hbA.cell (p := ⟨M, 2, none⟩) hM).trans x2)
                      | (go_at_call_of 34 (Value.int IntKind.i64 lt); refine (unhide C2 _ (by first | exact hbA | exact below_drewN hbA _)).mono ?_; rintro e y2 ⟨gB, cB, rfl, hcB, hbB⟩; have hb2 := hbA.trans (hbB.mono hbA.size); have hoA2 := hoA.below hbB; have kB0 := (hb2.cell (p := ⟨M, 0, none⟩) hM).trans x0; have kB2 := (hb2.cell (p := ⟨M, 2, none⟩) hM).trans x2)
                      | (refine step_append_src (by rfl) (.tmp 86) (.tmp 91) 23 (by rfl) w5.heap.size 3 i0 (.int .i64 0) 1 8 Try.underlying23 hi hz0 hz1 hz2 rfl (by decide) (.slice (some ⟨gA, 0, none⟩) A.length cA) A.length (A.map (Value.int .i64)) (by rfl) hoA2 (by simp) ⟨gB, 0, none⟩ B.length cB (B.map (Value.int .i64)) (by rfl) (by simp) hcB (ints_oneCell _ _) (by unfold maxLen; omega) (by omega) hb2.size ?_; intro g4 c4 y3 ho4 hg4; have hb3 := hb2.grown hg4 hb2.size (fun k hk => (hoA2.lt k hk).1); have ho5 := own_join ho4; have kC0 := (hb3.cell (p := ⟨M, 0, none⟩) hM).trans x0; have kC2 := (hb3.cell (p := ⟨M, 2, none⟩) hM).trans x2)
                      | (go_at_call 32; refine (unhide C3 _ _ _ hb3 (by first | exact ho5 | (rw [List.length_append]; exact ho5))).mono ?_; rintro e y4 ⟨v', rfl, hLR, hb4⟩; have kD0 := (hb4.cell (p := ⟨M, 0, none⟩) hM).trans x0; have kD2 := (hb4.cell (p := ⟨M, 2, none⟩) hM).trans x2))
                    have HLR2 := hide hLR
                    clear hLR hb4 kD0 kD2 kC0 kC2 ho5 hb3 ho4 hg4 kB0 kB2 hoA2 hb2 hcB hbB kA0 kA2 hoA hbA C1 C2 C3 CH x0 x1 x2
                    go_wp2
                    go_roundw
                    case rel => exact ⟨i, (i : Int) - 1, _, rfl, rfl, HLR2.out⟩
                    case measure => simp [intOf]
                  · have hh' : hasB S (-(nth ts i).lit) = false := by simpa using hh
                    rw [hh'] at CH
                    replace CH := hide CH
                    rw [stepL_no hh'] at HE HI
                    have HLR2 : Hid (LR w w5 ts c lv i (.slice (some ⟨gS, 0, none⟩) S.length cS) S) := ⟨hown5, by simp, HI.out, HE.out, hb05⟩
                    clear HE HI hh hh' HTOP hown5 hb05 hrowS5 hrow5 hrlits
                    generalize (nth ts i).lit = lt at *
                    generalize (nth ts i).lev = le at *
                    generalize (nth ts i).rsn.length = rn at *
                    by_cases hle : le = lv
                    · have hq : (le == lv) = true := by simpa using hle
                      clear hle
                      go_wp2_with (go_at_call 33; refine (unhide CH).mono ?_; rintro e w0 ⟨rfl, hw0⟩; subst w0)
                      go_roundw
                      case rel => exact ⟨i, (i : Int) - 1, S, rfl, rfl, HLR2.out⟩
                      case measure => simp [intOf]
                    · have hq : (le == lv) = false := by simpa using hle
                      clear hle
                      go_wp2
                      go_roundw
                      case rel => exact ⟨i, (i : Int) - 1, S, rfl, rfl, HLR2.out⟩
                      case measure => simp [intOf]

end Go.Proofs.Ytaepanmkofhgoaa
