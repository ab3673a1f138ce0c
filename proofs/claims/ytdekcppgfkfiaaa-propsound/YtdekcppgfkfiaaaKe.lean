/- The law of what follows, of a formula that is light. -/
import Derived.Test.YtdekcppgfkfiaaaKd
import Derived.Deep.RegionHeld3
import Derived.Deep.DeepCutAuto
set_option linter.unusedVariables false
set_option linter.unusedSimpArgs false
namespace Go.Proofs.Ytdekcppgfkfiaaa
open Go.RowKit

theorem LI.bel {w wr : World} {B V b7 : Nat} {a2 a3 a4 : Option Addr} {n2 c2 n3 c3 c4 : Nat} {css : List (List Int)} {D : List Int} (h : LI w wr B V b7 a2 a3 n2 c2 n3 c3 css D a4 c4) : Below w.heap.size w wr := by
  obtain ⟨ρ, H, s, _, _, _, _, _, _, h7, _⟩ := h.ex
  exact h7.bel

set_option maxHeartbeats 40000000 in
set_option maxRecDepth 100000 in
theorem sound_main (a ad am : Option Addr) (cap cd cm : Nat) (V : Nat) (css : List (List Int)) (ds m : List Int) (w : World) (hg : GridC w a css) (hlb : lightB css = true) (h60 : ¬ 60 < css.length) (hV : V ≤ 60) (hc : cnfB V css = true) (hrd : Row w ad ds) (hrm : Row w am m) (hdl : ds.length ≤ maxLen) (hml : m.length ≤ maxLen) :
    Calls Try.prog 5 #[.agg #[.int .i64 V, .slice a css.length cap], .slice ad ds.length cd, .slice am m.length cm] w fun e w' => e = .returned (.bool true) ∧ Below w.heap.size w w' := by
  have hlm : css.length ≤ maxLen := by unfold maxLen; omega
  have hb0 := below_alloc w (.cells #[.int .i64 V, .slice a css.length cap] 24)
  have L := light_any a cap V css _ (hg.grid.below hb0) hlm
  rw [hlb] at L
  replace L := hide L
  have HC : Hid (∀ x, Below w.heap.size w x → Calls Try.prog 10 #[.agg #[.int .i64 V, .slice a css.length cap]] x fun e w' => e = .returned (.bool true) ∧ Below x.heap.size x w') := fun x hx => by have := refCnf_any a cap V css x (hg.grid.below hx) hlm; rw [hc] at this; exact this
  have HBG : Hid (∀ x, Below w.heap.size w x → Calls Try.prog 12 #[.agg #[.int .i64 V, .slice a css.length cap]] x fun e w' => ∃ B g, e = .returned (.tuple #[.agg #[.pointer (some ⟨B, 0, none⟩), .int .i64 V, .slice a css.length cap, .slice (some ⟨g, 0, none⟩) css.length css.length, .slice none 0 0], .bool true]) ∧ BeginP x V css B g w') := fun x hx => begin_any a cap V css x (hg.below hx) (by omega) hc (by omega)
  have HHO : Hid (∀ x, Below w.heap.size w x → Calls Try.prog 20 #[.agg #[.int .i64 V, .slice a css.length cap], .slice am m.length cm] x fun e w' => e = .returned (.bool (holdsB m css)) ∧ Below x.heap.size x w') := fun x hx => refHolds_any a am cap cm V css m x (hg.grid.below hx) hlm (hrm.below hx) hml
  have HAW := fun x => hide (awake_any x)
  have HB0 := hide hb0
  have HK := hide (heap_alloc_new w (.cells #[.int .i64 V, .slice a css.length cap] 24))
  have HLT := hide (cnf_lt hc)
  have HRD := hide hrd
  have HRM := hide hrm
  have h60' : ¬ (60 : Int) < css.length := by omega
  have hV' : ¬ (60 : Int) < V := by omega
  have hd1 : decide ((60 : Int) < css.length) = false := decide_eq_false h60'
  have hd2 : decide ((60 : Int) < V) = false := decide_eq_false hV'
  unfold maxLen at hdl hml
  clear hg hb0 hlb hc hrd hrm hlm h60
  go_enter Try.func5, Try.ntmps5
  go_wp2_with (first | (go_at_call 7; refine (unhide L).mono ?_; rintro e w1 ⟨rfl, hb1⟩; have k1 := (hb1.cell (p := ⟨w.heap.size, 1, none⟩) (by simp)).trans (cell_of_block HK.out (i := 1) rfl); have k0 := (hb1.cell (p := ⟨w.heap.size, 0, none⟩) (by simp)).trans (cell_of_block HK.out (i := 0) rfl); have hb1w := HB0.out.trans (hb1.mono HB0.out.size); have hlt1 : w.heap.size < w1.heap.size := Nat.lt_of_lt_of_le (by simp) hb1.size) | (go_at_call 10; refine (HC.out _ hb1w).mono ?_; rintro e w2 ⟨rfl, hb2⟩; have j1 := (hb2.cell (p := ⟨w.heap.size, 1, none⟩) hlt1).trans k1; have j0 := (hb2.cell (p := ⟨w.heap.size, 0, none⟩) hlt1).trans k0; have hb2w := hb1w.trans (hb2.mono hb1w.size); have hlt2 : w.heap.size < w2.heap.size := Nat.lt_of_lt_of_le hlt1 hb2.size))
  refine Calls.mono (HBG.out w2 hb2w) ?_
  rintro e w3 ⟨B, g, rfl, ρ, H, hR, hE, hge, hrg, _⟩
  have hb3 := hE.bel
  have hb3w := hb2w.trans (hb3.mono hb2w.size)
  have i1 := (hb3.cell (p := ⟨w.heap.size, 1, none⟩) hlt2).trans j1
  have i0 := (hb3.cell (p := ⟨w.heap.size, 0, none⟩) hlt2).trans j0
  have hlt3 : w.heap.size < w3.heap.size := Nat.lt_of_lt_of_le hlt2 hb3.size
  have hne3 : w.heap.size ≠ w3.heap.size := by omega
  obtain ⟨e1, e2, e3, e4, e5, _, _⟩ := news V (by omega) css (fun c hc => (HLT.out c hc).2) (by omega)
  have HLI : Hid (LI w (w3.alloc (.cells #[.pointer (some ⟨B, 0, none⟩), .int .i64 V, .slice a css.length cap, .slice (some ⟨g, 0, none⟩) css.length css.length, .slice none 0 0] 36)) B V w3.heap.size a (some ⟨g, 0, none⟩) css.length cap css.length css.length css [] none 0) :=
    ⟨⟨fr ρ w3.heap.size, H, _, hR.fr (below_alloc w3 _), e1, e2, e3, by simp [PS.dec, e5], DR.nil _ _, ((Ev.below hb2w).trans hE).trans (Ev.fr (below_alloc w3 _)), fr_new (Nat.le_refl _)⟩, heap_alloc_new w3 _, by omega⟩
  have HB3 : Hid (Below w.heap.size w (w3.alloc (.cells #[.pointer (some ⟨B, 0, none⟩), .int .i64 V, .slice a css.length cap, .slice (some ⟨g, 0, none⟩) css.length css.length, .slice none 0 0] 36))) := hb3w.trans ((below_alloc w3 _).mono hb3w.size)
  clear hR hE hge hrg hb3 hb2w hb1w hb1 hb2 k0 k1 j0 j1 HC HBG L e1 e2 e3 e4 e5 hlt1 hlt2 hb3w HK
  simp only
  go_wp2_with (go_at_call 20; refine (HHO.out _ HB3.out).mono ?_; rintro e w4 ⟨rfl, hb4⟩)
  have HB4 := hide (HB3.out.trans (hb4.mono HB3.out.size))
  have HLI4 := hide (HLI.out.below hb4)
  clear HLI HB3 HHO hb4 i0 i1 hlt3 hne3
  generalize w3.heap.size = b7 at *
  generalize hh0 : holdsB m css = hb0 at *
  have HH0 := hide hh0
  clear hh0
  go_loopw [8, 9, 10] (fun j8 j9 j10 wr => ∃ (k : Nat) (hb : Bool) (D : List Int) (a4 : Option Addr) (c4 : Nat), j10 = .int .i64 k ∧ j8 = .bool true ∧ j9 = .bool hb ∧ k ≤ 20 ∧ k ≤ ds.length ∧ Hid (LI w wr B V b7 a (some ⟨g, 0, none⟩) css.length cap css.length css.length css D a4 c4) ∧ Hid (Below w.heap.size w wr) ∧ Hid (hb = (hb0 && D.all (fun x => valI m x == 1)))) (fun _ _ j10 _ => 20 - (intOf j10).toNat)
  case atStart => exact ⟨0, hb0, [], none, 0, rfl, rfl, rfl, by omega, by omega, HLI4, HB4, by simp [Hid]⟩
  case round =>
    clear HLI4 HB4
    obtain ⟨k, hb, D, a4, c4, rfl, rfl, rfl, hk20, hkd, HLI, HB, HHB⟩ := hrel
    obtain ⟨ρ, H, s, h1, h2, h3, h4, h5, h6, h7, h8⟩ := HLI.out.ex
    by_cases hlt : k < ds.length ∧ k < 20
    · obtain ⟨hl1, hl2⟩ := hlt
      have hl1' : (k : Int) < ds.length := by omega
      have hl2' : (k : Int) < 20 := by omega
      have d1 : decide (k < ds.length) = true := decide_eq_true hl1
      have d2 : decide (k < 20) = true := decide_eq_true hl2
      obtain ⟨bd, od, rfl, hbd, hcd⟩ := HRD.out k hl1
      have hcw := (HB.out.cell (p := ⟨bd, od + k, none⟩) hbd).trans hcd
      have p0 := cell_of_block HLI.out.blk (i := 0) rfl
      have p1 := cell_of_block HLI.out.blk (i := 1) rfl
      have p2 := cell_of_block HLI.out.blk (i := 2) rfl
      have p3 := cell_of_block HLI.out.blk (i := 3) rfl
      have p4 := cell_of_block HLI.out.blk (i := 4) rfl
      have hb7 := lt_of_block HLI.out.blk
      have OP : Hid (∀ x, Below wr.heap.size wr x → Calls Try.prog 21 #[.agg #[.pointer (some ⟨B, 0, none⟩), .int .i64 V, .slice a css.length cap, .slice (some ⟨g, 0, none⟩) css.length css.length, .slice a4 D.length c4], .int .i64 ds[k]] x fun e w' => e = .returned (.bool (openB V s.trail ds[k])) ∧ Below x.heap.size x w') := fun x hx => open_any (h1.below hx) (by have := trail_len h2.tr; omega) V (by omega) a (some ⟨g, 0, none⟩) a4 css.length cap css.length css.length D.length c4 ds[k]
      have HT : Hid (bd < w.heap.size ∧ True) := ⟨hbd, trivial⟩
      cases hop : openB V s.trail ds[k] with
      | false =>
        rw [hop] at OP
        clear h1 h2 h3 h4 h5 h6 h7 h8 hcd
        have hbr : bd < wr.heap.size := Nat.lt_of_lt_of_le hbd HB.out.size
        generalize ds[k] = l at *
        go_wp2_with fail
        go_region_held3 (fun x => x.cell? ⟨b7, 0, none⟩ = some (.pointer (some ⟨B, 0, none⟩)) ∧ x.cell? ⟨b7, 1, none⟩ = some (.int .i64 V) ∧ x.cell? ⟨b7, 2, none⟩ = some (.slice a css.length cap) ∧ x.cell? ⟨b7, 3, none⟩ = some (.slice (some ⟨g, 0, none⟩) css.length css.length) ∧ x.cell? ⟨b7, 4, none⟩ = some (.slice a4 D.length c4) ∧ x.cell? ⟨bd, od + k, none⟩ = some (.int .i64 l)) (first | exact ⟨by assumption, by assumption, by assumption, by assumption, by assumption, by assumption⟩ | go_keep) (first | (go_at_call 21; refine (OP.out _ (Below.refl _ _).drew).mono ?_; rintro e w5 ⟨rfl, hb5⟩; replace hb5 : Below wr.heap.size wr w5 := ⟨hb5.os, hb5.tape, hb5.output, hb5.size, hb5.block⟩; have s0 := (hb5.cell (p := ⟨b7, 0, none⟩) hb7).trans p0; have s1 := (hb5.cell (p := ⟨b7, 1, none⟩) hb7).trans p1; have s2 := (hb5.cell (p := ⟨b7, 2, none⟩) hb7).trans p2; have s3 := (hb5.cell (p := ⟨b7, 3, none⟩) hb7).trans p3; have s4 := (hb5.cell (p := ⟨b7, 4, none⟩) hb7).trans p4; have s5 := (hb5.cell (p := ⟨bd, od + k, none⟩) hbr).trans hcw))
        clear p0 p1 p2 p3 p4 s0 s1 s2 s3 s4 s5 hcw
        go_wp2_with fail
        go_roundw
        case rel => exact ⟨k + 1, hb, D, a4, c4, by go_num, rfl, rfl, by omega, by omega, HLI.out.below hb5, HB.out.trans (hb5.mono HB.out.size), HHB⟩
        case measure => simp [intOf]; omega
      | true =>
        rw [hop] at OP
        have hdl' : D.length ≤ 1000 := by
          rw [← h5, dec_len]
          have := lvs_len h2.tr; have := trail_len h2.tr; have := h2.sz.vars; omega
        have AM : Hid (∀ x, Below wr.heap.size wr x → Calls Try.prog 13 #[.agg #[.pointer (some ⟨B, 0, none⟩), .int .i64 V, .slice a css.length cap, .slice (some ⟨g, 0, none⟩) css.length css.length, .slice a4 D.length c4], .agg #[.int .i64 0, .int .i64 ds[k], .slice none 0 0]] x fun e w' => ∃ a' c', e = .returned (.tuple #[.agg #[.pointer (some ⟨B, 0, none⟩), .int .i64 V, .slice a css.length cap, .slice (some ⟨g, 0, none⟩) css.length css.length, .slice a' (D.length + 1) c'], .bool true]) ∧ w'.heap[b7]? = x.heap[b7]? ∧ b7 < w'.heap.size ∧ ∀ W, U5 w' W b7 [.pointer (some ⟨B, 0, none⟩), .int .i64 V, .slice a css.length cap, .slice (some ⟨g, 0, none⟩) css.length css.length, .slice a' (D.length + 1) c'] → LI w W B V b7 a (some ⟨g, 0, none⟩) css.length cap css.length css.length css (D ++ [ds[k]]) a' c') := fun x hx => act_more (h1.below hx) h2 h3 h4 h5 (h6.ev (Ev.below hx)) (h7.trans (Ev.below hx)) h8 ((hx.block _ (lt_of_block HLI.out.blk)).trans HLI.out.blk) HLI.out.ge (fun c hc => (HLT.out c hc).1) ds[k] hop
        have hbr : bd < wr.heap.size := Nat.lt_of_lt_of_le hbd HB.out.size
        have hcd0 : w.cell? ⟨bd, od + k, none⟩ = some (.int .i64 ds[k]) := hcd
        have HAL : Hid (∀ hb1, (hb1 = (hb && (valI m ds[k] == 1))) → hb1 = (hb0 && (D ++ [ds[k]]).all (fun x => valI m x == 1))) := by
          intro hb1 e; rw [e, HHB.out, List.all_append]; simp [Bool.and_assoc]
        clear h1 h2 h3 h4 h5 h6 h7 h8 hcd
        generalize ds[k] = l at *
        have HCD0 := hide hcd0
        clear hcd0
        go_wp2_with fail
        go_region_held3 (fun x => x.cell? ⟨b7, 0, none⟩ = some (.pointer (some ⟨B, 0, none⟩)) ∧ x.cell? ⟨b7, 1, none⟩ = some (.int .i64 V) ∧ x.cell? ⟨b7, 2, none⟩ = some (.slice a css.length cap) ∧ x.cell? ⟨b7, 3, none⟩ = some (.slice (some ⟨g, 0, none⟩) css.length css.length) ∧ x.cell? ⟨b7, 4, none⟩ = some (.slice a4 D.length c4) ∧ x.cell? ⟨bd, od + k, none⟩ = some (.int .i64 l)) (first | exact ⟨by assumption, by assumption, by assumption, by assumption, by assumption, by assumption⟩ | go_keep) (first | (go_at_call 21; refine (OP.out _ (Below.refl _ _).drew).mono ?_; rintro e w5 ⟨rfl, hb5⟩; replace hb5 : Below wr.heap.size wr w5 := ⟨hb5.os, hb5.tape, hb5.output, hb5.size, hb5.block⟩; have s0 := (hb5.cell (p := ⟨b7, 0, none⟩) hb7).trans p0; have s1 := (hb5.cell (p := ⟨b7, 1, none⟩) hb7).trans p1; have s2 := (hb5.cell (p := ⟨b7, 2, none⟩) hb7).trans p2; have s3 := (hb5.cell (p := ⟨b7, 3, none⟩) hb7).trans p3; have s4 := (hb5.cell (p := ⟨b7, 4, none⟩) hb7).trans p4; have s5 := (hb5.cell (p := ⟨bd, od + k, none⟩) hbr).trans hcw))
        have HB5 := hide (HB.out.trans (hb5.mono HB.out.size))
        have hb75 : b7 < w5.heap.size := Nat.lt_of_lt_of_le hb7 hb5.size
        have hbr5 : bd < w5.heap.size := Nat.lt_of_lt_of_le hbr hb5.size
        have HBK5 : Hid (w5.heap[b7]? = some (.cells #[.pointer (some ⟨B, 0, none⟩), .int .i64 V, .slice a css.length cap, .slice (some ⟨g, 0, none⟩) css.length css.length, .slice a4 D.length c4] 36 (0, 0))) := (hb5.block _ hb7).trans HLI.out.blk
        have HH5 := hide hb5
        clear p0 p1 p2 p3 p4 hcw OP hb5
        go_wp2_with fail
        first | (go_region_with (go_at_call 13; refine (AM.out _ HH5.out.drew).mono ?_; rintro e w6 ⟨a', c', rfl, hk6, hl6, hLM⟩; replace hk6 := hk6.trans HBK5.out; have u0 := cell_of_block hk6 (i := 0) rfl; have u1 := cell_of_block hk6 (i := 1) rfl; have u2 := cell_of_block hk6 (i := 2) rfl; have u3 := cell_of_block hk6 (i := 3) rfl; have u4 := cell_of_block hk6 (i := 4) rfl; have v0 := frz_of_block hk6 (i := 0); have v1 := frz_of_block hk6 (i := 1); have v2 := frz_of_block hk6 (i := 2); have v3 := frz_of_block hk6 (i := 3); have v4 := frz_of_block hk6 (i := 4))) | fail
        all_goals
          refine forget (P := fun W => Exit.then _ _ Exit.normal _ W) (fun W => Hid (LI w W B V b7 a (some ⟨g, 0, none⟩) css.length cap css.length css.length css (D ++ [l]) a' c')) (hLM _ ((((((U5.first rfl hk6).set 0 (.pointer (some ⟨B, 0, none⟩))).set 1 (.int .i64 V)).set 2 (.slice a css.length cap)).set 3 (.slice (some ⟨g, 0, none⟩) css.length css.length)).set 4 (.slice a' (D.length + 1) c'))) ?_
          clear hLM u0 u1 u2 u3 u4 v0 v1 v2 v3 v4 hk6 hl6 s0 s1 s2 s3 s4 HBK5 HH5 HB5 hb75 AM hb7 HLI HB
          intro W7 HLI7
          have HB7 := hide HLI7.out.bel
          have hcd7 := (HB7.out.cell (p := ⟨bd, od + k, none⟩) hbd).trans HCD0.out
          have RV := hide (refValue_any am cm m l W7 (HRM.out.below HB7.out) (by unfold maxLen; omega))
          clear s5
          cases hb with
          | false =>
            go_wp2_with fail
            go_roundw
            case rel => exact ⟨k + 1, false, D ++ [l], a', c', by go_num, rfl, rfl, by omega, by omega, HLI7, HB7, HAL.out false (by simp)⟩
            case measure => simp [intOf]; omega
          | true =>
            generalize valI m l = vl at *
            go_wp2_with (go_at_call 22; refine (unhide RV).mono ?_; rintro e w8 ⟨rfl, hw8⟩; subst w8)
            go_roundw
            case rel => exact ⟨k + 1, (vl == 1), D ++ [l], a', c', by go_num, rfl, by simp, by omega, by omega, HLI7, HB7, HAL.out _ (by simp)⟩
            case measure => simp [intOf]; omega
    · have p0 := cell_of_block HLI.out.blk (i := 0) rfl
      have hlits := new_lits h4 (fun c hc => (HLT.out c hc).1)
      have RN := hide (run_any h1 h2 hlits)
      have HFN : Hid (∀ (nn : Int) (w9 : World), RunP ρ wr B s nn w9 → Below w.heap.size w w9 ∧ w9.heap[b7]? = some (.cells #[.pointer (some ⟨B, 0, none⟩), .int .i64 V, .slice a css.length cap, .slice (some ⟨g, 0, none⟩) css.length css.length, .slice a4 D.length c4] 36 (0, 0)) ∧ True ∧ (true = (hb0 && D.all (fun x => valI m x == 1)) → ∃ tl : List Int, nn = -1 ∧ tl.length ≤ 1000 ∧ (∀ x ∈ tl, valI m x = 1) ∧ Calls Try.prog 16 #[.pointer (some ⟨B, 0, none⟩)] w9 fun e w' => CloneP w9 tl e w')) := by
        rintro nn w9 ⟨ρ', H', s', hR', hI', hE', hF, hn⟩
        refine ⟨(h7.trans hE').bel, (hE'.keep b7 (lt_of_block HLI.out.blk) h8).trans HLI.out.blk, trivial, fun hT => ?_⟩
        simp only [Bool.true_eq, Bool.and_eq_true, List.all_eq_true, beq_iff_eq] at hT
        obtain ⟨q1, q2⟩ := end_ok (w := w) (wr := wr) (B := B) (V := V) (b7 := b7) (a2 := a) (a3 := none) (a4 := a4) (n2 := 0) (c2 := 0) (n3 := 0) (c3 := 0) (c4 := 0) (m := m) h2 h4 h5 hI' hF hn (HH0.out.trans hT.1) hT.2
        have htl := trail_len hI'.tr
        have hvs := hI'.sz.vars
        exact ⟨s'.trail, q1, by omega, q2, propTrail_any hR' (by omega)⟩
      clear h1 h2 h3 h4 h5 h6 h7 h8 hlits
      by_cases hA : k < ds.length
      · have hA' : (k : Int) < ds.length := by omega
        have hB : ¬ (k : Int) < 20 := by omega
        have d1 : decide (k < ds.length) = true := decide_eq_true hA
        have d2 : decide (k < 20) = false := decide_eq_false (by omega)
        clear hlt
        cases hb with
        | false =>
          go_wp2_with (first | (go_at_call 15; refine (unhide RN).mono ?_; rintro e w9 ⟨nn, rfl, hRP⟩) | (go_at_call 9; refine (unhide (HAW _)).mono ?_; rintro e w10 ⟨rfl, hb10⟩))
          go_ret
          have hbe := HFN.out nn w9 hRP
          exact ⟨rfl, hbe.1.trans (hb10.mono hbe.1.size)⟩
        | true =>
          go_wp2_with fail
          refine (unhide RN).mono ?_
          rintro e w9 ⟨nn, rfl, hRP⟩
          obtain ⟨hbe, hb79, hT, TRf⟩ := HFN.out nn w9 hRP
          obtain ⟨tl, hnn, htl, hall, TR⟩ := TRf HHB.out
          replace TR := hide TR
          clear TRf
          subst hnn
          have p9 := cell_of_block hb79 (i := 0) rfl
          have HBE := hide hbe
          clear hRP hbe hb79 hT p0 RN HFN
          simp only
          go_wp2_with fail
          refine (unhide TR).mono ?_
          rintro e w11 ⟨v11, rfl, ho11, hb11⟩
          obtain ⟨ta, tc, rfl, hrow11, hlen11, _⟩ := Own.row ho11
          have HB11 := hide (HBE.out.trans (hb11.mono HBE.out.size))
          have HROW := hide hrow11
          have HALL := hide hall
          clear TR ho11 hb11 p9 hrow11 hall hlen11
          simp only
          go_wp2_with fail
          go_loopw [13] (fun j13 wr2 => ∃ k2 : Nat, k2 ≤ tl.length ∧ j13 = .int .i64 k2 ∧ wr2 = w11) (fun j13 _ => tl.length - (intOf j13).toNat)
          case atStart => exact ⟨0, Nat.zero_le _, rfl, rfl⟩
          case round =>
            obtain ⟨k2, hk2, rfl, rfl⟩ := hrel
            by_cases hlt2 : k2 < tl.length
            · obtain ⟨bt, ot, rfl, hbt, hct⟩ := HROW.out k2 hlt2
              have hk2' : (k2 : Int) < tl.length := by omega
              have hv1 := HALL.out tl[k2] (List.getElem_mem hlt2)
              have RV := refValue_any am cm m tl[k2] _ (HRM.out.below HB11.out) (by unfold maxLen; omega)
              rw [hv1] at RV
              replace RV := hide RV
              clear hv1
              generalize tl[k2] = y at *
              go_wp2_with (go_at_call 22; refine (unhide RV).mono ?_; rintro e w12 ⟨rfl, hw12⟩; subst w12)
              go_roundw
              case rel => exact ⟨k2 + 1, by omega, by go_num, by trivial⟩
              case measure => simp [intOf]; omega
            · go_wp2_with (go_at_call 9; refine (unhide (HAW _)).mono ?_; rintro e w13 ⟨rfl, hb13⟩)
              go_ret
              exact ⟨rfl, HB11.out.trans (hb13.mono HB11.out.size)⟩
      · have hA' : ¬ (k : Int) < ds.length := by omega
        have d1 : decide (k < ds.length) = false := decide_eq_false hA
        clear hlt
        cases hb with
        | false =>
          go_wp2_with (first | (go_at_call 15; refine (unhide RN).mono ?_; rintro e w9 ⟨nn, rfl, hRP⟩) | (go_at_call 9; refine (unhide (HAW _)).mono ?_; rintro e w10 ⟨rfl, hb10⟩))
          go_ret
          have hbe := HFN.out nn w9 hRP
          exact ⟨rfl, hbe.1.trans (hb10.mono hbe.1.size)⟩
        | true =>
          go_wp2_with fail
          refine (unhide RN).mono ?_
          rintro e w9 ⟨nn, rfl, hRP⟩
          obtain ⟨hbe, hb79, hT, TRf⟩ := HFN.out nn w9 hRP
          obtain ⟨tl, hnn, htl, hall, TR⟩ := TRf HHB.out
          replace TR := hide TR
          clear TRf
          subst hnn
          have p9 := cell_of_block hb79 (i := 0) rfl
          have HBE := hide hbe
          clear hRP hbe hb79 hT p0 RN HFN
          simp only
          go_wp2_with fail
          refine (unhide TR).mono ?_
          rintro e w11 ⟨v11, rfl, ho11, hb11⟩
          obtain ⟨ta, tc, rfl, hrow11, hlen11, _⟩ := Own.row ho11
          have HB11 := hide (HBE.out.trans (hb11.mono HBE.out.size))
          have HROW := hide hrow11
          have HALL := hide hall
          clear TR ho11 hb11 p9 hrow11 hall hlen11
          simp only
          go_wp2_with fail
          go_loopw [13] (fun j13 wr2 => ∃ k2 : Nat, k2 ≤ tl.length ∧ j13 = .int .i64 k2 ∧ wr2 = w11) (fun j13 _ => tl.length - (intOf j13).toNat)
          case atStart => exact ⟨0, Nat.zero_le _, rfl, rfl⟩
          case round =>
            obtain ⟨k2, hk2, rfl, rfl⟩ := hrel
            by_cases hlt2 : k2 < tl.length
            · obtain ⟨bt, ot, rfl, hbt, hct⟩ := HROW.out k2 hlt2
              have hk2' : (k2 : Int) < tl.length := by omega
              have hv1 := HALL.out tl[k2] (List.getElem_mem hlt2)
              have RV := refValue_any am cm m tl[k2] _ (HRM.out.below HB11.out) (by unfold maxLen; omega)
              rw [hv1] at RV
              replace RV := hide RV
              clear hv1
              generalize tl[k2] = y at *
              go_wp2_with (go_at_call 22; refine (unhide RV).mono ?_; rintro e w12 ⟨rfl, hw12⟩; subst w12)
              go_roundw
              case rel => exact ⟨k2 + 1, by omega, by go_num, by trivial⟩
              case measure => simp [intOf]; omega
            · go_wp2_with (go_at_call 9; refine (unhide (HAW _)).mono ?_; rintro e w13 ⟨rfl, hb13⟩)
              go_ret
              exact ⟨rfl, HB11.out.trans (hb13.mono HB11.out.size)⟩
end Go.Proofs.Ytdekcppgfkfiaaa
