/- Contract: what is idle, place by place. -/
import Derived.Test.YtaepanmkofhgoaaWalkT
set_option linter.unusedVariables false
set_option linter.unusedSimpArgs false
namespace Go.Proofs.Ytaepanmkofhgoaa
open Go.RowKit

set_option maxHeartbeats 2000000 in
theorem needed_any (w : World) (bx b6 b2 gH pb : Nat) (ts : List As) (x : PP) (Hm : Nat → Bool) (lt l : Int) (h : Pth w pb ts ts.length x) (cx : w.cell? ⟨bx, 0, none⟩ = some (.int .i64 lt)) (c6 : w.cell? ⟨b6, 0, none⟩ = some (.slice (some ⟨gH, 0, none⟩) ts.length ts.length)) (c2 : w.cell? ⟨b2, 0, none⟩ = some (.pointer (some ⟨pb, 0, none⟩)))
    (ch : ∀ j, j < ts.length → w.cell? ⟨gH, j, none⟩ = some (.bool (Hm j))) (hl : l = lt ∨ falB ts l = true) :
    Calls Try.prog 57 #[.int .i64 l, .pointer (some ⟨bx, 0, none⟩), .pointer (some ⟨b6, 0, none⟩), .pointer (some ⟨b2, 0, none⟩)] w fun e w' => e = .returned (.bool (l != lt && !Hm (pl ts l))) ∧ ∃ n, w' = w.drewN n := by
  have h20 := h.n20
  by_cases e : l = lt
  · have e1 : (l != lt) = false := by simpa using e
    have HR : Hid ((l != lt && !Hm (pl ts l)) = false) := by show _ = _; rw [e1]; rfl
    clear h ch hl c2 c6 e
    generalize (l != lt && !Hm (pl ts l)) = R at *
    go_enter Try.func57, Try.ntmps57
    go_wp2
    go_quiet (fail)
    go_wp2
    go_ret
    exact ⟨ret_bool HR.out.symm, _, rfl⟩
  · have T := Tr.of h.ok
    have hf := hl.resolve_left e
    have hl2 := litB_true.1 (fal_lit T.vl hf)
    have CP := fun n => place_any (w.drewN n) pb ts ts.length x l (h.drewN n)
    rw [List.take_length, varW_lit hl2.2.1 hl2.2.2, (T.fal hf).2.2] at CP
    replace CP := hide CP
    have hj := (T.fal hf).1
    have e1 : (l != lt) = true := by simpa using e
    have HR : Hid ((l != lt && !Hm (pl ts l)) = !Hm (pl ts l)) := by show _ = _; rw [e1]; rfl
    have hc := ch _ hj
    generalize (l != lt && !Hm (pl ts l)) = R at *
    generalize pl ts l = j at *
    generalize Hm j = hm at *
    have hj' : (j : Int) < ts.length := by omega
    clear h ch hl T hf hl2 e
    go_enter Try.func57, Try.ntmps57
    go_wp2
    go_quiet ((go_at_call 39; exact quietE (unhide CP _)))
    go_wp2
    go_ret
    exact ⟨ret_bool HR.out.symm, _, rfl⟩

/-- At which places something of a list stands. -/
def inL (ts : List As) (L : List Int) (j : Nat) : Bool := L.any (fun l => decide (pl ts l = j))
def hI (ts : List As) (L : List Int) (i j : Nat) : Bool := decide (j < i) && idleAt ts L j
def hH (ts : List As) (L : List Int) (i j : Nat) : Bool := inL ts L j || hI ts L i j

theorem inL_take {ts : List As} {L : List Int} {k : Nat} (h : k < L.length) : inL ts (L.take (k + 1)) = updB (inL ts (L.take k)) (pl ts L[k]) true := by
  funext j
  unfold inL updB
  rw [List.take_succ_eq_append_getElem h, List.any_append]
  by_cases e : j = pl ts L[k]
  · rw [if_pos e]; simp [e]
  · rw [if_neg e]
    have : decide (pl ts L[k] = j) = false := by simpa using fun e2 => e e2.symm
    simp [this]

theorem inL_has {ts : List As} (T : Tr ts) {L : List Int} (hL : ∀ l ∈ L, falB ts l = true) {l : Int} (hf : falB ts l = true) : inL ts L (pl ts l) = hasB L l := by
  rw [Bool.eq_iff_iff, hasB_iff]
  unfold inL
  rw [List.any_eq_true]
  constructor
  · rintro ⟨l', hl', e⟩
    have e' : pl ts l' = pl ts l := by simpa using e
    have h1 := T.fal (hL l' hl')
    have h2 := T.fal hf
    rw [e'] at h1
    have : l' = l := by omega
    rw [← this]; exact hl'
  · intro h
    exact ⟨l, h, by simp⟩

theorem hI_zero (ts : List As) (L : List Int) : hI ts L 0 = fun _ => false := by funext j; simp [hI]
theorem hI_succ (ts : List As) (L : List Int) (i : Nat) : hI ts L (i + 1) = updB (hI ts L i) i (idleAt ts L i) := by
  funext j
  unfold hI updB
  by_cases e : j = i
  · rw [if_pos e, e]; simp
  · rw [if_neg e]
    congr 1
    rw [Bool.eq_iff_iff]; simp; omega
theorem hH_zero (ts : List As) (L : List Int) : hH ts L 0 = inL ts L := by funext j; simp [hH, hI]
theorem hH_succ (ts : List As) (L : List Int) (i : Nat) : hH ts L (i + 1) = updB (hH ts L i) i (hH ts L i i || idleAt ts L i) := by
  funext j
  unfold hH
  rw [hI_succ]
  unfold updB
  by_cases e : j = i
  · rw [if_pos e, if_pos e, e]
    simp [hI]
  · rw [if_neg e, if_neg e]

theorem not_any (xs : List Int) (p : Int → Bool) : (!xs.any p) = xs.all (fun x => !p x) := by
  induction xs with
  | nil => rfl
  | cons x xs ih => simp only [List.any_cons, List.all_cons, Bool.not_or, ih]

/-- What is reckoned at a place is whether it is idle. -/
theorem idle_at {ts : List As} (T : Tr ts) {L : List Int} (hL : ∀ l ∈ L, falB ts l = true) {i : Nat} (hi : i < ts.length) : (!decide ((nth ts i).rsn.length = 0) && !(nth ts i).rsn.any (fun l => l != (nth ts i).lit && !hH ts L i (pl ts l))) = idleAt ts L i := by
  rw [idle_eq T L hi]
  congr 1
  · simp
  · rw [not_any]
    refine all_congr fun l hl => ?_
    by_cases e : l = (nth ts i).lit
    · simp [e]
    · obtain ⟨j, hj, e2⟩ := T.rsn hi hl e
      have hp := (T.pl_of (by omega) e2).1
      have hf : falB ts l = true := falB_iff.2 ⟨j, by omega, e2⟩
      have e3 : (l == (nth ts i).lit) = false := by simpa using e
      have e4 : (l != (nth ts i).lit) = true := by simpa using e
      have e5 : decide (pl ts l < i) = true := by rw [hp]; simpa using hj
      rw [e3, e4]
      unfold hH hI
      rw [inL_has T hL hf, e5]
      simp

theorem Try.info4 : (Try.prog.info? 4).map (fun i => (i.zero, i.size, i.bytes)) = some (some (.bool false), 1, 1) := by kernel_rfl

theorem madeB_at (M j : Nat) (h : j < M) : (madeCells (Value.bool false).cells (M * 1)).toList[j]? = some (.bool false) := by
  have e : j % 1 = 0 := Nat.mod_one j
  simp [madeCells, Value.cells, h, e]

/-- The boxes at the beginning. -/
theorem is_start {w0 w1 w2 : World} {pb n : Nat} (hb1 : Below w0.heap.size w0 w1) (hw1 : w1.cell? ⟨w0.heap.size, 0, none⟩ = some (.pointer (some ⟨pb, 0, none⟩))) (hs0 : w0.heap.size < w1.heap.size)
    {wa : World} (hI : wa.ownsRow w1.heap.size 4 1 (.slice (some ⟨w1.heap.size, 0, none⟩) n n) n (madeCells (Value.bool false).cells (n * 1)).toList) (hga : w1.grownBy wa none)
    (hH : w2.ownsRow wa.heap.size 4 1 (.slice (some ⟨wa.heap.size, 0, none⟩) n n) n (madeCells (Value.bool false).cells (n * 1)).toList) (hgb : wa.grownBy w2 none) :
    IS w0 (w2.alloc (.cells #[.slice (some ⟨wa.heap.size, 0, none⟩) n n] 51)) w0.heap.size w2.heap.size w1.heap.size wa.heap.size pb n (fun _ => false) (fun _ => false) := by
  have h1a : Below w1.heap.size w1 wa := (Below.refl _ _).grown hga (Nat.le_refl _) (by intro k hk; cases hk)
  have hab : Below wa.heap.size wa w2 := (Below.refl _ _).grown hgb (Nat.le_refl _) (by intro k hk; cases hk)
  have hli := (hI.lt w1.heap.size rfl).2
  have hlh := (hH.lt wa.heap.size rfl).2
  have h2n : Below w2.heap.size w2 (w2.alloc (.cells #[.slice (some ⟨wa.heap.size, 0, none⟩) n n] 51)) := below_alloc w2 _
  have han := hab.trans (h2n.mono (by omega))
  have h1n := h1a.trans (han.mono (by omega))
  have h0n := hb1.trans (h1n.mono (by omega))
  have hsz : (w2.alloc (.cells #[.slice (some ⟨wa.heap.size, 0, none⟩) n n] 51)).heap.size = w2.heap.size + 1 := by simp
  refine ⟨h0n, Nat.le_refl _, by omega, by omega, by omega, by omega, by omega, by omega, by omega, (h1n.cell (p := ⟨w0.heap.size, 0, none⟩) hs0).trans hw1, box_cell w2 _ 51 rfl, ?_, ?_, ?_, ?_, by omega, by omega, by omega⟩
  · intro j hj
    refine (han.cell (p := ⟨w1.heap.size, j, none⟩) hli).trans ?_
    rw [hI.cellAt j (by omega), madeB_at n j hj]
  · intro j hj
    refine (h2n.cell (p := ⟨wa.heap.size, j, none⟩) hlh).trans ?_
    rw [hH.cellAt j (by omega), madeB_at n j hj]
  · intro j
    exact (han.frozen (p := ⟨w1.heap.size, j, none⟩) hli).trans (hI.frozenAt j)
  · intro j
    exact (h2n.frozen (p := ⟨wa.heap.size, j, none⟩) hlh).trans (hH.frozenAt j)

theorem IS.drew {w0 w : World} {b2 b6 gI gH pb n : Nat} {I Hm : Nat → Bool} (h : IS w0 w b2 b6 gI gH pb n I Hm) : IS w0 w.drew b2 b6 gI gH pb n I Hm := h.below (below_drew w 1)

/-- What is left. -/
def IdleP (w0 w' : World) (ts : List As) (L : List Int) (e : Ending) : Prop := ∃ g, e = .returned (.slice (some ⟨g, 0, none⟩) ts.length ts.length) ∧ g < w'.heap.size ∧ (∀ j, j < ts.length → w'.cell? ⟨g, j, none⟩ = some (.bool (idleAt ts L j))) ∧ Below w0.heap.size w0 w'

set_option maxHeartbeats 8000000 in
set_option maxRecDepth 100000 in
theorem idle_any (w0 : World) (pb : Nat) (ts : List As) (x : PP) (a : Option Addr) (cap : Nat) (L : List Int) (P0 : Pth w0 pb ts ts.length x) (hr : Row w0 a L) (hl : L.length ≤ 7000) (hL : ∀ l ∈ L, falB ts l = true) :
    Calls Try.prog 38 #[.pointer (some ⟨pb, 0, none⟩), .slice a L.length cap] w0 fun e w' => IdleP w0 w' ts L e := by
  obtain ⟨i0, hi, hz0, hz1, hz2⟩ := info_parts Try.info4
  obtain ⟨xa, xcap, xq, xwd, xs⟩ := x
  have T := Tr.of P0.ok
  have h20 := P0.n20
  obtain ⟨W1, hW1⟩ : ∃ W1, W1 = w0.alloc (.cells #[.pointer (some ⟨pb, 0, none⟩)] 40) := ⟨_, rfl⟩
  have hP1 : Pth W1 pb ts ts.length ⟨xa, xcap, xq, xwd, xs⟩ := by rw [hW1]; exact P0.below (below_alloc w0 _)
  have hc2 : W1.cell? ⟨w0.heap.size, 0, none⟩ = some (.pointer (some ⟨pb, 0, none⟩)) := by rw [hW1]; exact box_cell w0 _ 40 rfl
  have hs1 : W1.heap.size = w0.heap.size + 1 := by rw [hW1]; simp
  have hb01 : Below w0.heap.size w0 W1 := by rw [hW1]; exact below_alloc w0 _
  have hpl := P0.hp
  go_enter Try.func38, Try.ntmps38
  go_upto_region 1 with fail
  rw [← hW1]
  have cp0 := hP1.c0
  have hp1 := hP1.hp
  have HS1 := hide hs1
  have HB01 := hide hb01
  clear hW1 hs1 hb01
  go_upto_region 2 with (at_make; refine wpList_make_full _ rfl _ _ 51 rfl W1.heap.size 4 i0 (.bool false) 1 Try.underlying51 hi hz0 hz1 .i64 .i64 _ _ ts.length rfl rfl rfl rfl (by rw [hz2]; omega) (by unfold maxLen; omega) (Nat.le_refl _) ?_; intro wa hIa hga)
  have h1a : Below W1.heap.size W1 wa := (Below.refl _ _).grown hga (Nat.le_refl _) (by intro k hk; cases hk)
  have hPa := hP1.below h1a
  have cpa := hPa.c0
  have hpa := hPa.hp
  have c2a := (h1a.cell (p := ⟨w0.heap.size, 0, none⟩) (World.block_lt_of_cell? W1 _ hc2)).trans hc2
  go_upto_region 3 with (at_make; refine wpList_make_full _ rfl _ _ 51 rfl wa.heap.size 4 i0 (.bool false) 1 Try.underlying51 hi hz0 hz1 .i64 .i64 _ _ ts.length rfl rfl rfl rfl (by rw [hz2]; omega) (by unfold maxLen; omega) (Nat.le_refl _) ?_; intro w2 hHb hgb)
  have IS0 := is_start HB01.out hc2 (by rw [HS1.out]; omega) hIa hga hHb hgb
  refine forget (I := fun z => IS w0 z w0.heap.size w2.heap.size W1.heap.size wa.heap.size pb ts.length (fun _ => false) (fun _ => false)) IS0 ?_
  rintro wA SA
  have HSA := hide SA
  clear SA IS0 hIa hga hHb hgb h1a hPa cpa hpa c2a cp0 hp1 hP1 hc2
  generalize hb2 : w0.heap.size = b2 at HSA ⊢
  generalize hb6 : w2.heap.size = b6 at HSA ⊢
  generalize hgI : W1.heap.size = gI at HSA ⊢
  generalize hgH : wa.heap.size = gH at HSA ⊢
  clear hb2 hb6 hgI hgH HS1 HB01
  go_upto_region 4 with fail
  go_loopw [26] (fun i wr => ∃ k : Nat, k ≤ L.length ∧ i = .int .i64 k ∧ IS w0 wr b2 b6 gI gH pb ts.length (fun _ => false) (inL ts (L.take k))) (fun i _ => L.length - (intOf i).toNat)
  case atStart => exact ⟨0, Nat.zero_le _, rfl, HSA.out⟩
  case round =>
    clear HSA
    obtain ⟨k, hk, rfl, R⟩ := hrel
    by_cases hlt : k < L.length
    · obtain ⟨b, off, rfl, hb, hc⟩ := hr k hlt
      have hc' := (R.bel.cell (p := ⟨b, off + k, none⟩) hb).trans hc
      have hf := hL _ (List.getElem_mem hlt)
      have hl2 := litB_true.1 (fal_lit T.vl hf)
      have CP := fun n => place_any (wr.drewN n) pb ts ts.length ⟨xa, xcap, xq, xwd, xs⟩ L[k] ((P0.below R.bel).drewN n)
      rw [List.take_length, varW_lit hl2.2.1 hl2.2.2, (T.fal hf).2.2] at CP
      replace CP := hide CP
      have hj := (T.fal hf).1
      have HT := hide (inL_take (ts := ts) hlt)
      have c2 := R.c2
      have c6 := R.c6
      have ch := R.ch _ hj
      have fh := R.fh (pl ts L[k])
      have n2 := R.n2.2
      have n6 := R.n6.2
      have n2' : gH ≠ b2 := fun e => R.n2.2 e.symm
      have n6' : gH ≠ b6 := fun e => R.n6.2 e.symm
      have HS := hide (fun n => (R.below (below_drew wr n)).setH hj true)
      clear R hr hc hb P0 T hl2 hf hL
      generalize pl ts L[k] = j at *
      generalize inL ts (L.take k) j = hm at *
      have hj' : (j : Int) < ts.length := by omega
      go_upto_region 6 with fail
      go_region_held3 (fun z => z.cell? ⟨b6, 0, none⟩ = some (.slice (some ⟨gH, 0, none⟩) ts.length ts.length) ∧ z.cell? ⟨b2, 0, none⟩ = some (.pointer (some ⟨pb, 0, none⟩))) (go_keep) (first | (go_at_call 39; refine (unhide CP _).mono ?_; rintro e w0 ⟨rfl, n, hw0⟩; subst w0))
      rename_i hHeld
      clear hHeld
      refine forget (I := fun z => IS w0 z b2 b6 gI gH pb ts.length (fun _ => false) (updB (inL ts (L.take k)) j true)) (HS.out (1 + n)) ?_
      rintro w4 R4
      have HR4 := hide R4
      clear R4 HS CP c2 c6 ch fh
      go_wp2
      go_roundw
      case rel => exact ⟨k + 1, by omega, by go_num, by rw [HT.out]; exact HR4.out⟩
      case measure => simp [intOf]; omega
    · have hz : L.take k = L := List.take_of_length_le (by omega)
      rw [hz, ← hH_zero, ← hI_zero ts L] at R
      have HR := hide R
      have c2 := R.c2
      have hPr := P0.below R.bel
      have cp0 := hPr.c0
      clear R hr hz hPr
      go_upto_region 9 with fail
      go_loopw [41] (fun i wr => ∃ k : Nat, k ≤ ts.length ∧ i = .int .i64 k ∧ IS w0 wr b2 b6 gI gH pb ts.length (hI ts L k) (hH ts L k)) (fun i _ => ts.length - (intOf i).toNat)
      case atStart => exact ⟨0, Nat.zero_le _, rfl, HR.out⟩
      case round =>
        clear HR c2 cp0
        obtain ⟨i, hi', rfl, R⟩ := hrel
        by_cases hlti : i < ts.length
        · have hPr := P0.below R.bel
          obtain ⟨b, off, ea, hA⟩ := hPr.tr i hlti
          obtain ⟨ra, rc, h2, hrow⟩ := hA.c2
          have hc0 := hA.c0
          have hc1 := hA.c1
          have hab := hA.lt
          have hrl := T.rsn_len hlti
          have HID := hide (idle_at T hL hlti)
          have hli' : (i : Int) < ts.length := by omega
          dsimp only at ea
          subst ea
          go_upto_region 12 with fail
          have HPX := hide P0
          refine forget (I := fun z => Below wr.heap.size wr z ∧ z.cell? ⟨wr.heap.size, 0, none⟩ = some (.int .i64 (nth ts i).lit) ∧ z.cell? ⟨wr.heap.size, 1, none⟩ = some (.int .i64 (nth ts i).lev) ∧ z.cell? ⟨wr.heap.size, 2, none⟩ = some (.slice ra (nth ts i).rsn.length rc)) ⟨below_alloc wr _, box_cell wr _ 38 rfl, box_cell wr _ 38 rfl, box_cell wr _ 38 rfl⟩ ?_
          rintro w5 ⟨hb5, x0, x1, x2⟩
          have R5 := R.below hb5
          have hrow5 := hrow.below hb5
          have hM := World.block_lt_of_cell? w5 _ x0
          dsimp only at hM
          have hnI : wr.heap.size ≠ gI := by have := R.li; omega
          have hnH : wr.heap.size ≠ gH := by have := R.lh; omega
          have hci5 := R5.ci i hlti
          have hfi5 := R5.fi i
          have CD := hide (isDecided_any w5 (nth ts i).lit (nth ts i).lev ra (nth ts i).rsn.length rc)
          clear hb5 hPr hA h2 hrow hc0 hc1 hab R
          generalize wr.heap.size = M at *
          have hli5 := R5.li
          have hlh5 := R5.lh
          have HR5 := hide R5
          by_cases hrz : (nth ts i).rsn.length = 0
          · have HV : Hid (idleAt ts L i = false) := by show _ = _; rw [← HID.out, hrz]; rfl
            rw [hrz] at x2 CD
            clear hrow5 HID hrl hrz HPX P0 T hL
            generalize (nth ts i).lit = lt at *
            generalize (nth ts i).lev = le at *
            generalize hI ts L i i = vI at *
            go_upto_region 13 with (go_at_call 58; refine (unhide CD).mono ?_; rintro e w6 ⟨rfl, hb6⟩; have ci6 := (hb6.cell (p := ⟨gI, i, none⟩) hli5).trans hci5; have fi6 := (hb6.frozen (p := ⟨gI, i, none⟩) hli5).trans hfi5)
            refine forget (I := fun z => IS w0 z b2 b6 gI gH pb ts.length (hI ts L (i + 1)) (hH ts L i)) (by rw [hI_succ, HV.out]; exact (HR5.out.below hb6).setI hlti false) ?_
            rintro w7 R7
            clear hb6 ci6 fi6
            have HN : Hid (hH ts L (i + 1) = updB (hH ts L i) i (hH ts L i i || hI ts L (i + 1) i)) := by
              show _ = _
              rw [hH_succ]
              have : hI ts L (i + 1) i = idleAt ts L i := by unfold hI; simp
              rw [this]
            have c6 := R7.c6
            have ch := R7.ch i hlti
            have ci := R7.ci i hlti
            have fh := R7.fh i
            have q1 : gI ≠ gH := R7.nIH
            have q2 : gH ≠ gI := fun e => R7.nIH e.symm
            have q3 : b6 ≠ gH := R7.n6.2
            have q4 : gH ≠ b6 := fun e => R7.n6.2 e.symm
            have HR7 := hide R7
            clear R7 HR5 HV hli5 hlh5 CD hci5 hfi5 x0 x1 x2 hM hnI hnH hi hz0 hz1 hz2
            generalize hI ts L (i + 1) i = vi at *
            generalize hH ts L i i = vh at *
            cases vh
            · go_region
              refine forget (I := fun z => IS w0 z b2 b6 gI gH pb ts.length (hI ts L (i + 1)) (hH ts L (i + 1))) (by rw [HN.out]; exact (HR7.out.setH hlti _).drew) ?_
              rintro w8 R8
              have HR8 := hide R8
              clear R8 HR7 c6 ch ci fh
              go_wp2
              go_roundw
              case rel => exact ⟨i + 1, by omega, by go_num, HR8.out⟩
              case measure => simp [intOf]; omega
            · go_region
              refine forget (I := fun z => IS w0 z b2 b6 gI gH pb ts.length (hI ts L (i + 1)) (hH ts L (i + 1))) (by rw [HN.out]; exact (HR7.out.setH hlti _).drew) ?_
              rintro w8 R8
              have HR8 := hide R8
              clear R8 HR7 c6 ch ci fh
              go_wp2
              go_roundw
              case rel => exact ⟨i + 1, by omega, by go_num, HR8.out⟩
              case measure => simp [intOf]; omega
          · have hnz : decide ((nth ts i).rsn.length = 0) = false := by simpa using hrz
            rw [hnz] at CD
            replace CD := hide CD
            have HV0 := HID.out
            rw [hnz] at HV0
            have HC : Hid (∀ w', Below w5.heap.size w5 w' → Calls Try.prog 59 #[.slice ra (nth ts i).rsn.length rc, .func (.func 57) #[] #[.pointer (some ⟨M, 0, none⟩), .pointer (some ⟨b6, 0, none⟩), .pointer (some ⟨b2, 0, none⟩)]] w' fun e w'' => e = .returned (.bool ((nth ts i).rsn.any (fun l => l != (nth ts i).lit && !hH ts L i (pl ts l)))) ∧ ∃ n, w'' = w'.drewN n) := by
              intro w' hb'
              refine containsFunc_any w' ra rc (nth ts i).rsn M b6 b2 _ (hrow5.below hb') (by omega) ?_
              intro n l hl'
              have R' := (R5.below hb').below (below_drew w' n)
              refine needed_any (w'.drewN n) M b6 b2 gH pb ts _ (hH ts L i) (nth ts i).lit l (HPX.out.below R'.bel) ((hb'.cell (p := ⟨M, 0, none⟩) hM).trans x0) R'.c6 R'.c2 R'.ch ?_
              by_cases e : l = (nth ts i).lit
              · exact .inl e
              · obtain ⟨j, hj, e2⟩ := T.rsn hlti hl' e
                exact .inr (falB_iff.2 ⟨j, by omega, e2⟩)
            generalize (nth ts i).rsn.any (fun l => l != (nth ts i).lit && !hH ts L i (pl ts l)) = AN at *
            have HV : Hid (idleAt ts L i = !AN) := by show _ = _; rw [← HV0]; rfl
            clear hrow5 HID hrl hrz HPX P0 T hL hnz HV0 R5
            generalize (nth ts i).lit = lt at *
            generalize (nth ts i).lev = le at *
            generalize (nth ts i).rsn.length = rn at *
            generalize hI ts L i i = vI at *
            go_upto_region 13 with (first
              | (go_at_call 58; refine (unhide CD).mono ?_; rintro e w6 ⟨rfl, hb6⟩; have ci6 := (hb6.cell (p := ⟨gI, i, none⟩) hli5).trans hci5; have fi6 := (hb6.frozen (p := ⟨gI, i, none⟩) hli5).trans hfi5; have x26 := (hb6.cell (p := ⟨M, 2, none⟩) hM).trans x2)
              | (go_at_call 59; refine (unhide HC _ hb6).mono ?_; rintro e w0' ⟨rfl, n6, hw0'⟩; subst w0'))
            refine forget (I := fun z => IS w0 z b2 b6 gI gH pb ts.length (hI ts L (i + 1)) (hH ts L i)) (by rw [hI_succ, HV.out]; exact ((HR5.out.below hb6).below (below_drew w6 n6)).setI hlti _) ?_
            rintro w7 R7
            clear hb6 ci6 fi6 x26 HC
            have HN : Hid (hH ts L (i + 1) = updB (hH ts L i) i (hH ts L i i || hI ts L (i + 1) i)) := by
              show _ = _
              rw [hH_succ]
              have : hI ts L (i + 1) i = idleAt ts L i := by unfold hI; simp
              rw [this]
            have c6 := R7.c6
            have ch := R7.ch i hlti
            have ci := R7.ci i hlti
            have fh := R7.fh i
            have q1 : gI ≠ gH := R7.nIH
            have q2 : gH ≠ gI := fun e => R7.nIH e.symm
            have q3 : b6 ≠ gH := R7.n6.2
            have q4 : gH ≠ b6 := fun e => R7.n6.2 e.symm
            have HR7 := hide R7
            clear R7 HR5 HV hli5 hlh5 CD hci5 hfi5 x0 x1 x2 hM hnI hnH hi hz0 hz1 hz2
            generalize hI ts L (i + 1) i = vi at *
            generalize hH ts L i i = vh at *
            cases vh
            · go_region
              refine forget (I := fun z => IS w0 z b2 b6 gI gH pb ts.length (hI ts L (i + 1)) (hH ts L (i + 1))) (by rw [HN.out]; exact (HR7.out.setH hlti _).drew) ?_
              rintro w8 R8
              have HR8 := hide R8
              clear R8 HR7 c6 ch ci fh
              go_wp2
              go_roundw
              case rel => exact ⟨i + 1, by omega, by go_num, HR8.out⟩
              case measure => simp [intOf]; omega
            · go_region
              refine forget (I := fun z => IS w0 z b2 b6 gI gH pb ts.length (hI ts L (i + 1)) (hH ts L (i + 1))) (by rw [HN.out]; exact (HR7.out.setH hlti _).drew) ?_
              rintro w8 R8
              have HR8 := hide R8
              clear R8 HR7 c6 ch ci fh
              go_wp2
              go_roundw
              case rel => exact ⟨i + 1, by omega, by go_num, HR8.out⟩
              case measure => simp [intOf]; omega
        · have hz2 : i = ts.length := by omega
          subst hz2
          have HR := hide R
          clear R
          go_wp2
          go_ret
          refine ⟨gI, rfl, HR.out.li, fun j hj => ?_, HR.out.bel⟩
          rw [HR.out.ci j hj]
          unfold hI
          simp [hj]

end Go.Proofs.Ytaepanmkofhgoaa
