/- Contract: literals go for the others of their reasons till a broken clause is learned. -/
import Derived.Test.YtaepanmkofhgoaaWalkL
import Derived.Test.YtaepanmkofhgoaaPlainM
set_option linter.unusedVariables false
set_option linter.unusedSimpArgs false
namespace Go.Proofs.Ytaepanmkofhgoaa
open Go.RowKit Go.Maps

/-- The boxes at the beginning. -/
theorem ts_start (w0 : World) (pb n : Nat) (lv : Int) : TS w0 ((((((w0.alloc (.cells #[.pointer (some ⟨pb, 0, none⟩)] 40)).drewN n).alloc (.cells #[.int .i64 lv] 3)).alloc (.map #[] 0)).alloc (.cells #[.map (some (w0.heap.size + 1 + 1))] 46)).alloc (.cells #[.int .i64 0] 3))
    w0.heap.size (w0.heap.size + 1) (w0.heap.size + 1 + 1 + 1) (w0.heap.size + 1 + 1 + 1 + 1) (w0.heap.size + 1 + 1) pb lv 0 [] 0 := by
  let W1 := (w0.alloc (.cells #[.pointer (some ⟨pb, 0, none⟩)] 40)).drewN n
  have s1 : W1.heap.size = w0.heap.size + 1 := by show (w0.alloc _).heap.size = _; simp
  let W2 := W1.alloc (.cells #[.int .i64 lv] 3)
  have s2 : W2.heap.size = w0.heap.size + 1 + 1 := by show (W1.alloc _).heap.size = _; rw [size_alloc, s1]
  let W3 := W2.alloc (.map #[] 0)
  have s3 : W3.heap.size = w0.heap.size + 1 + 1 + 1 := by show (W2.alloc _).heap.size = _; rw [size_alloc, s2]
  let W4 := W3.alloc (.cells #[.map (some (w0.heap.size + 1 + 1))] 46)
  have s4 : W4.heap.size = w0.heap.size + 1 + 1 + 1 + 1 := by show (W3.alloc _).heap.size = _; rw [size_alloc, s3]
  let W5 := W4.alloc (.cells #[.int .i64 0] 3)
  have s5 : W5.heap.size = w0.heap.size + 1 + 1 + 1 + 1 + 1 := by show (W4.alloc _).heap.size = _; rw [size_alloc, s4]
  have b01 : Below w0.heap.size w0 W1 := below_drewN (below_alloc w0 _) n
  have b12 : Below W1.heap.size W1 W2 := below_alloc W1 _
  have b23 : Below W2.heap.size W2 W3 := below_alloc W2 _
  have b34 : Below W3.heap.size W3 W4 := below_alloc W3 _
  have b45 : Below W4.heap.size W4 W5 := below_alloc W4 _
  have b35 := b34.trans (b45.mono (by omega))
  have b25 := b23.trans (b35.mono (by omega))
  have b15 := b12.trans (b25.mono (by omega))
  have b05 := b01.trans (b15.mono (by omega))
  have c2 : W1.cell? ⟨w0.heap.size, 0, none⟩ = some (.pointer (some ⟨pb, 0, none⟩)) := box_cell w0 _ 40 rfl
  have c5 : W2.cell? ⟨w0.heap.size + 1, 0, none⟩ = some (.int .i64 lv) := by rw [← s1]; exact box_cell W1 _ 3 rfl
  have c7 : W4.cell? ⟨w0.heap.size + 1 + 1 + 1, 0, none⟩ = some (.map (some (w0.heap.size + 1 + 1))) := by rw [← s3]; exact box_cell W3 _ 46 rfl
  have c8 : W5.cell? ⟨w0.heap.size + 1 + 1 + 1 + 1, 0, none⟩ = some (.int .i64 0) := by rw [← s4]; exact box_cell W4 _ 3 rfl
  have f8 : W5.frozen? ⟨w0.heap.size + 1 + 1 + 1 + 1, 0, none⟩ = false := by
    have := heap_alloc_new W4 (.cells #[.int .i64 0] 3)
    rw [s4] at this
    show (W4.alloc _).frozen? _ = _
    simp [World.frozen?, this]
  have hm : W3.ownsMap Try.prog 3 (unitElem (H := Unit)) (w0.heap.size + 1 + 1) 0 (.map []) := by
    have := World.ownsMap_made (H := Unit) W2 Try.prog 3 unitElem
    rw [s2] at this
    exact this
  have hm5 : W5.ownsMap Try.prog 3 (unitElem (H := Unit)) (w0.heap.size + 1 + 1) 0 (.map []) := (hm.alloc _).alloc _
  show TS w0 W5 _ _ _ _ _ pb lv 0 [] 0
  refine ⟨b05, by omega, by omega, by omega, by omega, by omega, by omega, (b15.cell (p := ⟨w0.heap.size, 0, none⟩) (by show w0.heap.size < W1.heap.size; omega)).trans c2, (b25.cell (p := ⟨w0.heap.size + 1, 0, none⟩) (by show w0.heap.size + 1 < W2.heap.size; omega)).trans c5, (b45.cell (p := ⟨w0.heap.size + 1 + 1 + 1, 0, none⟩) (by show w0.heap.size + 1 + 1 + 1 < W4.heap.size; omega)).trans c7, c8, f8, ⟨_, hm5, fun x => rfl⟩, by omega, by omega, by omega, by omega⟩

/-- The midst of learning. -/
structure LM (w0 wr : World) (b2 b5 b7 b8 B pb : Nat) (ts : List As) (c : List Int) (lv : Int) (q : Nat) (S : List Int) (N : Nat) : Prop where
  t : TS w0 wr b2 b5 b7 b8 B pb lv (cnt ts lv S) S N
  inv : InvL ts lv q S
  same : loopL ts lv q S = learnS ts c
  bd : N ≤ 100 + 257 * (ts.length - q)

theorem loopL_stop {ts : List As} {lv : Int} {q : Nat} {S : List Int} (h : stopB ts lv S = true) : loopL ts lv q S = S := by
  cases q with
  | zero => rfl
  | succ q => unfold loopL; rw [h]; rfl
theorem loopL_go {ts : List As} {lv : Int} {q : Nat} {S : List Int} (h : stopB ts lv S = false) : loopL ts lv (q + 1) S = loopL ts lv q (stepL ts q S) := by
  conv => lhs; unfold loopL
  rw [h]; rfl
theorem stepL_no {ts : List As} {i : Nat} {S : List Int} (h : hasB S (-(nth ts i).lit) = false) : stepL ts i S = S := by unfold stepL; rw [h]; rfl
theorem stepL_yes {ts : List As} {i : Nat} {S : List Int} (h : hasB S (-(nth ts i).lit) = true) : stepL ts i S = (wo (nth ts i).rsn (nth ts i).lit).foldl ins (wo S (-(nth ts i).lit)) := by unfold stepL; rw [h]; rfl

theorem TS.more {w0 w : World} {b2 b5 b7 b8 B pb : Nat} {lv C : Int} {S : List Int} {N N' : Nat} (h : TS w0 w b2 b5 b7 b8 B pb lv C S N) (hn : N ≤ N') : TS w0 w b2 b5 b7 b8 B pb lv C S N' := by
  obtain ⟨D, ho, hD⟩ := h.ms
  exact { h with ms := ⟨D, ho.mono hn, hD⟩ }

theorem order_take_len (c : List Int) (k : Nat) : (order (c.take k)).length ≤ k := Nat.le_trans (order_len _) (List.length_take_le _ _)

/-- What is left of learning. -/
def TeachP (w0 w' : World) (ts : List As) (c : List Int) (e : Ending) : Prop := ∃ B N, e = .returned (.map (some B)) ∧ MS w' B N (learnS ts c) ∧ N ≤ 7000 ∧ Below w0.heap.size w0 w'

set_option maxHeartbeats 8000000 in
set_option maxRecDepth 100000 in
theorem teach_any (w0 : World) (pb : Nat) (ts : List As) (x : PP) (a : Option Addr) (cap : Nat) (c : List Int) (P0 : Pth w0 pb ts ts.length x) (hr : Row w0 a c) (hl : c.length ≤ 100) (hf : ∀ l ∈ c, falB ts l = true) :
    Calls Try.prog 31 #[.pointer (some ⟨pb, 0, none⟩), .slice a c.length cap] w0 fun e w' => TeachP w0 w' ts c e := by
  have T := Tr.of P0.ok
  have h20 := P0.n20
  have hmm := @run_makeMap Try.prog
  have CG := hide (greatest_any (w0.alloc (.cells #[.pointer (some ⟨pb, 0, none⟩)] 40)) pb ts x a cap c (P0.below (below_alloc w0 _)) (hr.below (below_alloc w0 _)) (by unfold maxLen; omega) hf)
  have HS := hide (InvL.start T hf hl)
  have hnn : 0 ≤ grt ts c := (grt_ge c 0).1
  have hle : grt ts c ≤ 100 := by
    rcases grt_has (ts := ts) c 0 with e | ⟨l, hl, e⟩
    · unfold grt; omega
    · have := T.levI_bd (hf l hl); unfold grt; omega
  have HL : Hid (loopL ts (grt ts c) ts.length (order c) = learnS ts c) := rfl
  obtain ⟨b2, hb2⟩ : ∃ b2, b2 = w0.heap.size := ⟨_, rfl⟩
  obtain ⟨b5, hb5⟩ : ∃ b5, b5 = w0.heap.size + 1 := ⟨_, rfl⟩
  obtain ⟨B, hB⟩ : ∃ B, B = w0.heap.size + 1 + 1 := ⟨_, rfl⟩
  obtain ⟨b7, hb7⟩ : ∃ b7, b7 = w0.heap.size + 1 + 1 + 1 := ⟨_, rfl⟩
  obtain ⟨b8, hb8⟩ : ∃ b8, b8 = w0.heap.size + 1 + 1 + 1 + 1 := ⟨_, rfl⟩
  have HST : Hid (∀ n, TS w0 ((((((w0.alloc (.cells #[.pointer (some ⟨pb, 0, none⟩)] 40)).drewN n).alloc (.cells #[.int .i64 (grt ts c)] 3)).alloc (.map #[] 0)).alloc (.cells #[.map (some (w0.heap.size + 1 + 1))] 46)).alloc (.cells #[.int .i64 0] 3)) b2 b5 b7 b8 B pb (grt ts c) 0 [] 0) := by
    rw [hb2, hb5, hB, hb7, hb8]; exact fun n => ts_start w0 pb n _
  generalize grt ts c = lv at *
  go_enter Try.func31, Try.ntmps31
  go_upto_region 6 with (first | (go_at_call 41; refine (unhide CG).mono ?_; rintro e w1 ⟨rfl, n, rfl⟩))
  rw [← hb8, ← hb7, ← hB, ← hb5, ← hb2]
  rw [← hB] at HST
  refine forget (I := fun z => TS w0 z b2 b5 b7 b8 B pb lv 0 [] 0) (HST.out n) ?_
  rintro wA TA
  obtain ⟨st, hst⟩ : ∃ st : Int, st = (if 1 < lv then 1 else lv) := ⟨_, rfl⟩
  rw [← hst]
  have HSP : Hid (∀ S, stopB ts lv S = false ↔ st < (cnt ts lv S : Int)) := by
    intro S
    unfold stopB
    rw [hst]
    by_cases e : 1 < lv
    · rw [if_pos e]; simp; omega
    · rw [if_neg e]; simp; omega
  clear hst hb2 hb5 hB hb7 hb8 HST CG hmm
  have CA := hide (fun w S N l h hl hS hN => add_any w0 w b2 b5 b7 b8 B pb ts x lv S N l P0 h hl hS hN)
  have HTA := hide TA
  clear TA
  go_upto_region 7 with fail
  go_loopw [27] (fun i wr => ∃ k : Nat, k ≤ c.length ∧ i = .int .i64 k ∧ TS w0 wr b2 b5 b7 b8 B pb lv (cnt ts lv (order (c.take k))) (order (c.take k)) k) (fun i _ => c.length - (intOf i).toNat)
  case atStart => exact ⟨0, Nat.zero_le _, rfl, HTA.out⟩
  case round =>
    clear HTA
    obtain ⟨k, hk, rfl, TR⟩ := hrel
    by_cases hlt : k < c.length
    · have hbl := TR.bel
      obtain ⟨b, off, rfl, hb, hc⟩ := hr k hlt
      have hc' := (hbl.cell (p := ⟨b, off + k, none⟩) hb).trans hc
      have HO := hide (order_take hlt)
      have C := hide ((unhide CA) wr (order (c.take k)) k c[k] TR (hf _ (List.getElem_mem hlt)) (by have := order_take_len c k; omega) (by omega))
      clear CA TR hbl hr hc hb P0 T HS HL HSP hf
      generalize order (c.take k) = O at *
      go_wp2_with (go_at_call 54; refine (unhide C).mono ?_; rintro e w1 ⟨rfl, TR1, -⟩)
      go_roundw
      case rel => exact ⟨k + 1, by omega, by go_num, by rw [HO.out]; exact TR1⟩
      case measure => simp [intOf]; omega
    · have hz : c.take k = c := List.take_of_length_le (by omega)
      rw [hz] at TR
      have HLM : Hid (LM w0 wr b2 b5 b7 b8 B pb ts c lv ts.length (order c) k) := ⟨TR, HS.out, HL.out, by omega⟩
      have hc0 := (P0.below TR.bel).c0
      have c2 := TR.c2
      clear TR HS HL hr hz
      go_upto_region 12 with fail
      go_loopw [12] (fun i ws => ∃ (q N : Nat) (v : Int) (S : List Int), i = .int .i64 v ∧ v = (q : Int) - 1 ∧ LM w0 ws b2 b5 b7 b8 B pb ts c lv q S N) (fun i _ => (intOf i + 1).toNat)
      case atStart => exact ⟨ts.length, k, (ts.length : Int) - 1, order c, rfl, rfl, HLM.out⟩
      case round =>
        clear HLM hc0 c2
        obtain ⟨q, N, v, S, rfl, hv, L⟩ := hrel
        have c8 := L.t.c8
        have c7 := L.t.c7
        have c2 := L.t.c2
        have hcl := cnt_le ts lv S
        have hsl := L.inv.len
        have hil := L.inv.il
        have hbd := L.bd
        by_cases hs : stopB ts lv S = true
        · have HE := hide (loopL_stop (q := q) hs)
          have hn : ¬ st < (cnt ts lv S : Int) := fun h => by rw [(HSP.out S).2 h] at hs; cases hs
          have HL := hide L
          clear L hs
          generalize (cnt ts lv S : Int) = cS at *
          go_wp2
          go_ret
          refine ⟨B, N, rfl, ?_, by omega, HL.out.t.bel⟩
          rw [← HL.out.same, HE.out]
          exact HL.out.t.ms
        have hs' : stopB ts lv S = false := by simpa using hs
        have hcp := (stop_not hs').1
        have hgt : st < (cnt ts lv S : Int) := (HSP.out S).1 hs'
        have HE := hide (L.same.symm)
        cases q with
        | zero =>
          have := L.inv.zero
          subst this
          simp [cnt] at hcp
        | succ i =>
          obtain rfl : v = (i : Int) := by omega
          clear hv
          rw [loopL_go hs'] at HE
          have hi : i < ts.length := by omega
          obtain ⟨b, off, ea, hA0⟩ := P0.tr i hi
          have hPr := P0.below L.t.bel
          have hp0 := hPr.c0
          obtain ⟨b', off', ea', hA⟩ := hPr.tr i hi
          have e2 := ea.symm.trans ea'
          cases e2
          clear ea'
          obtain ⟨ra, rc, h2, hrow⟩ := hA0.c2
          have hc0 := hA.c0
          have hc1 := hA.c1
          have hc2 := (L.t.bel.cell (p := ⟨b, off + i * 3 + 2, none⟩) hA0.lt).trans h2
          have hab := hA.lt
          have hlit := litB_true.1 (T.vl i hi)
          have hrl := T.rsn_len hi
          have hiv := L.inv.step T
          have hTB := L.t.below (below_alloc wr (.cells #[.int .i64 (nth ts i).lit, .int .i64 (nth ts i).lev, .slice ra (nth ts i).rsn.length rc] 38))
          obtain ⟨D, hown, hD⟩ := hTB.ms
          have hD1 := hD (-(nth ts i).lit)
          have hkey := key3 (l := -(nth ts i).lit) (by omega)
          have hl7 := L.t.l7
          have HT0 := hide L.t
          by_cases hh : hasB S (-(nth ts i).lit) = true
          · rw [hh] at hD1
            rw [stepL_yes hh] at HE hiv
            have HI := hide hiv
            have HT1 := hide (hTB.below (below_alloc _ (.cells #[] 56)))
            have hown2 := hown.alloc (.cells #[] 56)
            have HMD := hide (fun (_ : Unit) => ms_del (l := -(nth ts i).lit) hD)
            have hcw := cnt_wo (ordered_nodup L.inv.ord) (hasB_iff.1 hh) (L.inv.top T hcp hh).2
            have hl8 := L.t.l8
            have hlB : B < wr.heap.size := by obtain ⟨D', ho', _⟩ := L.t.ms; exact ho'.lt
            have hsl2 := wo_len S (-(nth ts i).lit)
            have hcb0 : (wr.alloc (.cells #[.int .i64 (nth ts i).lit, .int .i64 (nth ts i).lev, .slice ra (nth ts i).rsn.length rc] 38)).cell? ⟨wr.heap.size, 0, none⟩ = some (.int .i64 (nth ts i).lit) := box_cell wr _ 38 rfl
            have hcb2 : (wr.alloc (.cells #[.int .i64 (nth ts i).lit, .int .i64 (nth ts i).lev, .slice ra (nth ts i).rsn.length rc] 38)).cell? ⟨wr.heap.size, 2, none⟩ = some (.slice ra (nth ts i).rsn.length rc) := box_cell wr _ 38 rfl
            have HB0 := hide hcb0
            have HB2 := hide hcb2
            have hfl : Hid (∀ l ∈ (nth ts i).rsn, l ≠ (nth ts i).lit → falB ts l = true) := fun l hl hne => by
              obtain ⟨j, hj, e⟩ := T.rsn hi hl hne
              exact falB_iff.2 ⟨j, by omega, e⟩
            have HROW := hide hrow
            rw [ea] at hp0
            clear ea hcb0 hcb2
            clear hTB hD hh hiv L hA0 hA hPr hrow h2 HT0 P0 T hf
            generalize hrs : (nth ts i).rsn = rs at *
            generalize (nth ts i).lit = lt at *
            generalize (nth ts i).lev = le at *
            clear hrs
            generalize hcS : (cnt ts lv S : Int) = cS at *
            have HcS := hide hcS
            have HCW : Hid (cS - 1 = (cnt ts lv (wo S (-lt)) : Nat)) := by show _ = _; omega
            have hcS0 : 0 ≤ cS := by omega
            have hcS1 : cS ≤ 20000 := by omega
            clear hcS hcw
            go_upto_region 18 with (first | (at_lookup; refine wpList_lookup_own_unit _ rfl _ _ 46 rfl 3 56 law3 Try.underlying46 (zero56 _) B N D rfl hown _ _ rfl hkey ?_; rw [hD1]) | (at_delete; refine wpList_delete_own _ rfl _ _ 46 3 rfl 56 law3 Try.underlying46 _ B N D rfl hown2 _ _ rfl hkey ?_; intro w5 hown5 hturn5))
            go_frame
            have T5 := (unhide HT1).turned hown5 (HMD.out ()) hturn5
            have k5 : Kq b8 B (wr.alloc (.cells #[.int .i64 lt, .int .i64 le, .slice ra rs.length rc] 38)) w5 := (Kq.of_below (below_alloc _ _)).trans (Kq.of_turned hturn5)
            have c85 := T5.c8
            have f85 := T5.f8
            have hn8 : wr.heap.size ≠ b8 := by omega
            have hnB : wr.heap.size ≠ B := by omega
            have d0 := k5.cell HB0.out hn8 hnB
            have d2 := k5.cell HB2.out hn8 hnB
            have HT5 := hide (T5.setC (C' := cS - 1))
            clear T5 k5 hturn5 hown5 hown hown2 HMD HT1 hD1 hkey HB0 HB2 hc0 hc1 hc2 c8 c7 c2 hp0
            generalize wr.heap.size = M1 at *
            go_upto_region 19 with fail
            refine forget (I := fun z => TS w0 z b2 b5 b7 b8 B pb lv (cnt ts lv (wo S (-lt)) : Nat) (wo S (-lt)) N ∧ z.cell? ⟨M1, 0, none⟩ = some (.int .i64 lt) ∧ z.cell? ⟨M1, 2, none⟩ = some (.slice ra rs.length rc)) ⟨by rw [← HCW.out]; exact HT5.out, by rw [World.cell?_setCell_other _ _ _ _ (by intro e; cases e; exact hn8 rfl)]; exact d0, by rw [World.cell?_setCell_other _ _ _ _ (by intro e; cases e)]; exact d2⟩ ?_
            rintro w6 ⟨T6, d06, d26⟩
            have HT6 := hide T6
            clear T6 HT5 d0 d2 c85 f85
            go_upto_region 20 with fail
            go_loopw [72] (fun j z => ∃ k3 : Nat, k3 ≤ rs.length ∧ j = .int .i64 k3 ∧ TS w0 z b2 b5 b7 b8 B pb lv (cnt ts lv ((wo (rs.take k3) lt).foldl ins (wo S (-lt))) : Nat) ((wo (rs.take k3) lt).foldl ins (wo S (-lt))) (N + k3) ∧ z.cell? ⟨M1, 0, none⟩ = some (.int .i64 lt)) (fun j _ => rs.length - (intOf j).toNat)
            case atStart => exact ⟨0, Nat.zero_le _, rfl, HT6.out, d06⟩
            case round =>
              clear HT6 d06 d26
              obtain ⟨k3, hk3, rfl, TR, d0⟩ := hrel
              by_cases hlt3 : k3 < rs.length
              · obtain ⟨b9, off9, rfl, hb9, hc9⟩ := HROW.out k3 hlt3
                have hc9' := (TR.bel.cell (p := ⟨b9, off9 + k3, none⟩) hb9).trans hc9
                have hfl9 := foldl_len (wo (rs.take k3) lt) (wo S (-lt))
                have hwl9 := wo_len_take rs lt k3
                by_cases hne : (rs[k3] != lt) = true
                · have HWT := hide (wo_take_hit hlt3 hne)
                  have C := hide ((unhide CA) wr _ (N + k3) rs[k3] TR (hfl.out _ (List.getElem_mem hlt3) (by simpa using hne)) (by omega) (by omega))
                  have HFA : Hid ((wo (rs.take (k3 + 1)) lt).foldl ins (wo S (-lt)) = ins ((wo (rs.take k3) lt).foldl ins (wo S (-lt))) rs[k3]) := by
                    show _ = _
                    rw [HWT.out, List.foldl_append]; rfl
                  clear CA TR hfl9 hwl9 HWT
                  generalize (wo (rs.take k3) lt).foldl ins (wo S (-lt)) = S3 at *
                  go_wp2_with (go_at_call 54; refine (unhide C).mono ?_; rintro e w7 ⟨rfl, TR7, KQ⟩)
                  have d7 := KQ.cell d0 hn8 hnB
                  go_roundw
                  case rel => exact ⟨k3 + 1, by omega, by go_num, by rw [HFA.out]; exact TR7, d7⟩
                  case measure => simp [intOf]; omega
                · have hne' : (rs[k3] != lt) = false := by simpa using hne
                  have HWT := hide (wo_take_miss hlt3 hne')
                  have HTR := hide TR
                  clear CA TR hfl9 hwl9 hne
                  go_wp2
                  go_roundw
                  case rel => exact ⟨k3 + 1, by omega, by go_num, by rw [HWT.out]; exact HTR.out.more (by omega), d0⟩
                  case measure => simp [intOf]; omega
              · have hz3 : rs.take k3 = rs := List.take_of_length_le (by omega)
                rw [hz3] at TR
                have HTR := hide TR
                clear CA TR hz3
                go_wp2
                go_roundw
                case rel => exact ⟨i, N + k3, (i : Int) - 1, _, rfl, rfl, ⟨HTR.out, HI.out, HE.out.symm, by omega⟩⟩
                case measure => simp [intOf]
          · have hh' : hasB S (-(nth ts i).lit) = false := by simpa using hh
            rw [hh'] at hD1
            rw [stepL_no hh'] at HE hiv
            have HI := hide hiv
            have HT1 := hide (hTB.below (below_alloc _ (.cells #[] 56)))
            rw [ea] at hp0
            clear ea
            clear hTB hD hh hh' hiv L hA0 hA hPr hrow h2 hrl CA HT0 P0 T hf
            generalize (nth ts i).lit = lt at *
            generalize (nth ts i).lev = le at *
            generalize (nth ts i).rsn.length = rn at *
            generalize hcS : (cnt ts lv S : Int) = cS at *
            have HcS := hide hcS
            clear hcS
            go_wp2_with (at_lookup; refine wpList_lookup_own_unit _ rfl _ _ 46 rfl 3 56 law3 Try.underlying46 (zero56 _) B N D rfl hown _ _ rfl hkey ?_; rw [hD1])
            go_roundw
            case rel => exact ⟨i, N, (i : Int) - 1, S, rfl, rfl, ⟨by rw [HcS.out]; exact HT1.out, HI.out, HE.out.symm, by omega⟩⟩
            case measure => simp [intOf]

end Go.Proofs.Ytaepanmkofhgoaa
