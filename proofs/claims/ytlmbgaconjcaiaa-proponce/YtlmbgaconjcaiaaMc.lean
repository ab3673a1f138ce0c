/- Contracts of the law: what Run told is what follows. -/
import Derived.Test.YtlmbgaconjcaiaaMb
import Derived.Test.YtlmbgaconjcaiaaLb
import Derived.Deep.RegionHeld3
set_option linter.unusedVariables false
set_option linter.unusedSimpArgs false
namespace Go.Proofs.Ytlmbgaconjcaiaa
open Go.RowKit

theorem alike_of {xs ys : List Int} (h : ∀ x, x ∈ ys ↔ x ∈ xs) (hl : ys.length = xs.length) : alikeB xs ys = true := by
  unfold alikeB
  simp only [Bool.and_eq_true, List.all_eq_true, decide_eq_true_eq]
  exact ⟨fun x hx => hasB_true.2 ((h x).2 hx), fun x hx => hasB_true.2 ((h x).1 hx), hl.symm⟩

section
variable {ρ : Nat → Rl} {w : World} {B : Nat} {H : Hd} {s : PS}

set_option maxHeartbeats 40000000 in
set_option maxRecDepth 100000 in
theorem ran_any (h : Rep ρ w B H s) (hI : Inv s) (hlits : ∀ c ∈ s.cls, c.lits.length ≤ 10000) (V : Nat) (hV : s.vars = V) (hVb : s.vars ≤ 1000) (a2 a3 a4 : Option Addr) (c2 c3 c4 : Nat) (css : List (List Int)) (gs : List Bool) (hg : GridC w a2 css) (hb : RowB w a3 gs) (hl : gs.length = css.length) (hn : css.length ≤ 1048576) (hd : DR ρ w (.slice a4 s.dec.length c4) s.dec.length s.dec)
    (ha : Alv s (thereL css gs)) (htl : (thereL css gs).length ≤ 1048576) (n : Int) (hrun : (n = -1 ∧ s.late = [] ∧ s.head = s.trail.length) ∨ Brk s n) :
    Calls Try.prog 34 #[.agg #[.pointer (some ⟨B, 0, none⟩), .int .i64 V, .slice a2 css.length c2, .slice a3 gs.length c3, .slice a4 s.dec.length c4], .int .i64 n] w fun e w' => e = .returned (.bool true) ∧ Below w.heap.size w w' := by
  have hVs := hI.sz.vars
  have htr : s.trail.length ≤ 1048576 := by have := trail_len hI.tr; omega
  have hbW := below_alloc w (.cells #[.pointer (some ⟨B, 0, none⟩), .int .i64 V, .slice a2 css.length c2, .slice a3 gs.length c3, .slice a4 s.dec.length c4] 36)
  have HK := hide (heap_alloc_new w (.cells #[.pointer (some ⟨B, 0, none⟩), .int .i64 V, .slice a2 css.length c2, .slice a3 gs.length c3, .slice a4 s.dec.length c4] 36))
  have hlt0 : w.heap.size < (w.alloc (.cells #[.pointer (some ⟨B, 0, none⟩), .int .i64 V, .slice a2 css.length c2, .slice a3 gs.length c3, .slice a4 s.dec.length c4] 36)).heap.size := by simp
  have TH := hide (there_any B V a2 a3 a4 c2 c3 s.dec.length c4 css gs (w.alloc (.cells #[.pointer (some ⟨B, 0, none⟩), .int .i64 V, .slice a2 css.length c2, .slice a3 gs.length c3, .slice a4 s.dec.length c4] 36)).drew (hg.below hbW.drew) (hb.below hbW.drew) hl hn)
  obtain ⟨_, hrow, _⟩ := own_row3 hd.1
  have hform : a4 = none → c4 = 0 := by
    intro e
    obtain ⟨a', c', e', _, _, hc⟩ := own_form hd.1
    simp at e'
    obtain ⟨rfl, rfl⟩ := e'
    rcases hc with ⟨_, _, hc⟩ | ⟨g, hg', _⟩
    · exact hc
    · rw [e] at hg'; cases hg'
  have hLt : ∀ c ∈ thereL css gs, c.length ≤ 10000 ∧ ∀ x ∈ c, Lt s.vars x := by
    intro c hc
    obtain ⟨i, c', h1, h2, h3⟩ := (ha c).1 hc
    refine ⟨by rw [← h3]; exact hlits c' (List.mem_of_getElem? h1), Alv.lt hI ha c hc⟩
  have FO : Hid (∀ (a' : Option Addr) (c' : Nat) (x : World), GridC x a' (thereL css gs) → Below w.heap.size w x → Calls Try.prog 61 #[.slice a' (thereL css gs).length c', .slice a4 s.dec.length c4] x fun e w' => FolQ x (followsP (thereL css gs) 100001 s.dec) e w') := fun a' c' x hgx hx => refFollows_any a' a4 c' c4 (thereL css gs) s.dec s.vars x hgx.grid (hrow.below hx) hform htl hVs hLt (fun y hy => hI.tr.ok y (dec_trail hI y hy)) (dec_nd hI)
  have TR : Hid (∀ x, Below w.heap.size w x → Calls Try.prog 15 #[.pointer (some ⟨B, 0, none⟩)] x fun e w' => CloneP x s.trail e w') := fun x hx => propTrail_any (h.below hx) htr
  have HB0 := hide hbW
  have HLT0 := hide hlt0
  have hcase : (n = -1 ∧ (followsP (thereL css gs) 100001 s.dec).2 = false ∧ alikeB s.trail (followsP (thereL css gs) 100001 s.dec).1 = true) ∨ (∃ (i : Nat) (c : Cl), n = (i : Int) ∧ s.cls[i]? = some c ∧ c.gone = false ∧ (∀ x ∈ c.lits, -x ∈ s.trail) ∧ (followsP (thereL css gs) 100001 s.dec).2 = true) := by
    rcases hrun with ⟨h1, h2, h3⟩ | hbk
    · left
      obtain ⟨k1, k2, k3⟩ := follows_done hI h2 h3 ha (fuel := 100001) (by omega)
      exact ⟨h1, k1, alike_of k2 k3⟩
    · right
      have k := follows_brk hI ha hbk (fuel := 100001) (by omega)
      obtain ⟨i, c, h1, h2, h3, h4⟩ := hbk
      exact ⟨i, c, h1, h2, h3, h4, k⟩
  have HH := hide h
  have HI := hide hI
  have HLI := hide hlits
  clear hVb hbW hg hb hl hn hd ha hrun hrow hform hLt hlits hlt0 htl
  generalize followsP (thereL css gs) 100001 s.dec = pp at *
  generalize thereL css gs = tc at *
  obtain ⟨pl, pb⟩ := pp
  simp only at hcase
  generalize hND : s.dec.length = ND at *
  clear hND
  generalize hNG : gs.length = NG at *
  clear hNG
  generalize hNC : css.length = NC at *
  clear hNC
  have p0 := cell_of_block HK.out (i := 0) rfl
  have p1 := cell_of_block HK.out (i := 1) rfl
  have p2 := cell_of_block HK.out (i := 2) rfl
  have p3 := cell_of_block HK.out (i := 3) rfl
  have p4 := cell_of_block HK.out (i := 4) rfl
  go_enter Try.func34, Try.ntmps34
  go_wp2_with fail
  go_region_held3 (fun x => x.cell? ⟨w.heap.size, 0, none⟩ = some (.pointer (some ⟨B, 0, none⟩)) ∧ x.cell? ⟨w.heap.size, 1, none⟩ = some (.int .i64 V) ∧ x.cell? ⟨w.heap.size, 2, none⟩ = some (.slice a2 NC c2) ∧ x.cell? ⟨w.heap.size, 3, none⟩ = some (.slice a3 NG c3) ∧ x.cell? ⟨w.heap.size, 4, none⟩ = some (.slice a4 ND c4)) (first | exact ⟨by assumption, by assumption, by assumption, by assumption, by assumption⟩ | go_keep) (first
    | (go_at_call 17; refine (unhide TH).mono ?_; rintro e w2 ⟨a', c', rfl, hgr, hb2⟩; replace hb2 : Below (w.alloc (.cells #[.pointer (some ⟨B, 0, none⟩), .int .i64 V, .slice a2 NC c2, .slice a3 NG c3, .slice a4 ND c4] 36)).heap.size (w.alloc (.cells #[.pointer (some ⟨B, 0, none⟩), .int .i64 V, .slice a2 NC c2, .slice a3 NG c3, .slice a4 ND c4] 36)) w2 := ⟨hb2.os, hb2.tape, hb2.output, hb2.size, hb2.block⟩; have hb2w := HB0.out.trans (hb2.mono HB0.out.size); have s0 := (hb2.cell (p := ⟨w.heap.size, 0, none⟩) HLT0.out).trans p0; have s1 := (hb2.cell (p := ⟨w.heap.size, 1, none⟩) HLT0.out).trans p1; have s2 := (hb2.cell (p := ⟨w.heap.size, 2, none⟩) HLT0.out).trans p2; have s3 := (hb2.cell (p := ⟨w.heap.size, 3, none⟩) HLT0.out).trans p3; have s4 := (hb2.cell (p := ⟨w.heap.size, 4, none⟩) HLT0.out).trans p4; have hlt2 := Nat.lt_of_lt_of_le HLT0.out hb2.size)
    | (go_at_call 61; refine (FO.out _ _ _ hgr hb2w).mono ?_; rintro e w3 ⟨ta, tcp, rfl, hrw3, hmx3, hb3⟩; have r0 := (hb3.cell (p := ⟨w.heap.size, 0, none⟩) hlt2).trans s0; have r1 := (hb3.cell (p := ⟨w.heap.size, 1, none⟩) hlt2).trans s1; have r2 := (hb3.cell (p := ⟨w.heap.size, 2, none⟩) hlt2).trans s2; have r3 := (hb3.cell (p := ⟨w.heap.size, 3, none⟩) hlt2).trans s3; have r4 := (hb3.cell (p := ⟨w.heap.size, 4, none⟩) hlt2).trans s4; have hb3w := hb2w.trans (hb3.mono hb2w.size); have hlt3 := Nat.lt_of_lt_of_le hlt2 hb3.size))
  clear p0 p1 p2 p3 p4 s0 s1 s2 s3 s4 r1 r2 r3 r4 TH FO HK
  have HW3 := hide hb3w
  have HRW3 := hide hrw3
  have HMX3 := hide hmx3
  have h3lt := hlt3
  clear hrw3 hmx3 hb3 hb2 hgr hb2w hb3w
  rcases hcase with ⟨rfl, hpb, hal⟩ | ⟨i, c, rfl, hc, hg, hbk, hpb⟩
  · subst hpb
    have HAL := hide hal
    clear hal
    have AL : Hid (∀ (xa : Option Addr) (xc : Nat) (x : World), Row x xa s.trail → Below w3.heap.size w3 x → Calls Try.prog 18 #[.slice xa s.trail.length xc, .slice ta pl.length tcp] x fun e w' => e = .returned (.bool true) ∧ w' = x) := fun xa xc x hr hx => by have := refAlike_any xa ta xc tcp s.trail pl x hr (HRW3.out.below hx) (by unfold maxLen; omega) HMX3.out; rw [HAL.out] at this; exact this
    go_wp2_with (first | (go_at_call 15; refine (TR.out _ HW3.out).mono ?_; rintro e w4 ⟨v4, rfl, ho4, hb4⟩; obtain ⟨xa, xc, rfl, hrow4, hlen4, _⟩ := Own.row ho4) | (go_at_call 18; refine (AL.out _ _ _ hrow4 hb4).mono ?_; rintro e w5 ⟨rfl, hw5⟩; subst w5))
    go_ret
    exact ⟨rfl, HW3.out.trans (hb4.mono HW3.out.size)⟩
  · subst hpb
    have hcl := HI.out.sz.cls
    have CP := hide (propClause_yes (HH.out.below HW3.out) i c hc hg hcl (HLI.out c (List.mem_of_getElem? hc)))
    have hok : ∀ x ∈ c.lits, -1048576 ≤ x ∧ x ≤ 1048576 := fun x hx => by have := HI.out.wt.ok i c hc x hx; unfold Lt at this; omega
    have hcn := HLI.out c (List.mem_of_getElem? hc)
    have hbp : brokenP s.trail c.lits = true := by unfold brokenP; rw [List.all_eq_true]; intro x hx; exact decide_eq_true (hbk x hx)
    have BK : Hid (∀ (xa ya : Option Addr) (xc yc : Nat) (x : World), Row x xa c.lits → Row x ya s.trail → Calls Try.prog 41 #[.slice xa c.lits.length xc, .slice ya s.trail.length yc] x fun e w' => e = .returned (.bool true) ∧ w' = x) := fun xa ya xc yc x hr hs => by have := refBroken_any xa ya xc yc c.lits s.trail x hr hs (by omega) (by unfold maxLen; omega) hok; rw [hbp] at this; exact this
    clear hok hbp hc hg hbk
    go_wp2_with (first | (go_at_call 39; refine (unhide CP).mono ?_; rintro e w4 ⟨v4, rfl, ho4, hb4⟩; obtain ⟨xa, xc, rfl, hrow4, hlen4, _⟩ := Own.row ho4; have q0 := (hb4.cell (p := ⟨w.heap.size, 0, none⟩) h3lt).trans r0; have hb4w := HW3.out.trans (hb4.mono HW3.out.size)) | (go_at_call 15; refine (TR.out _ hb4w).mono ?_; rintro e w5 ⟨v5, rfl, ho5, hb5⟩; obtain ⟨ya, yc, rfl, hrow5, hlen5, _⟩ := Own.row ho5) | (go_at_call 41; refine (BK.out _ _ _ _ _ (hrow4.below hb5) hrow5).mono ?_; rintro e w6 ⟨rfl, hw6⟩; subst w6))
    go_ret
    exact ⟨rfl, hb4w.trans (hb5.mono hb4w.size)⟩
end
end Go.Proofs.Ytlmbgaconjcaiaa
