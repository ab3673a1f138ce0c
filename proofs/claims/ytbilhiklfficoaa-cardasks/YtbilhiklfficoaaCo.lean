/- The law of bounds. -/
import Derived.Test.YtbilhiklfficoaaCn
import Derived.Deep.RegionHeld3
set_option linter.unusedVariables false
set_option linter.unusedSimpArgs false
namespace Go.Proofs.Ytbilhiklfficoaa
open Go.RowKit Go.Maps

/-- Where some of three literals are told, one behind the other in any order. -/
def AS (w W : World) (B M : Nat) (v : Value) (g : List Gt) (k : Nat) (m1 m2 m3 : List Bool → Bool) (o1 o2 o3 : Option Int) : Prop :=
  ∃ v' g', St w W B M v v' g g' k ∧ (∀ x, o1 = some x → Lt g' x m1) ∧ (∀ x, o2 = some x → Lt g' x m2) ∧ (∀ x, o3 = some x → Lt g' x m3)
section
variable {w W W1 : World} {B M k : Nat} {v : Value} {g : List Gt} {m1 m2 m3 : List Bool → Bool} {o1 o2 o3 : Option Int}
theorem AS.cell (h : AS w W B M v g k m1 m2 m3 o1 o2 o3) {q i : Nat} {x : Value} (hq : q < w.heap.size) (hf : ¬ Sv B M v q) (hc : w.cell? ⟨q, i, none⟩ = some x) : W.cell? ⟨q, i, none⟩ = some x := by
  obtain ⟨v', g', s, _⟩ := h
  exact s.cell hq hf hc
end

section
variable (w : World)
set_option maxHeartbeats 8000000 in
set_option maxRecDepth 100000 in
theorem asks_any (ag ai ax : Option Addr) (cg ci ca : Nat) (g : List Gt) (ins : List Bool) (l : List Int) (K : Int) (hK : inI64 K) (hg : GS w ag g) (hfg : ag = none → g = [] ∧ cg = 0) (hgl : g.length ≤ maxLen) (hi : Vs w ai ins) (hil : ins.length ≤ maxLen) (hr : Row w ax l) (hf : ax = none → l = []) (hal : l.length ≤ maxLen) :
    Calls Try.prog 4 #[.slice ag g.length cg, .slice ai ins.length ci, .agg #[.slice ax l.length ca, .int .i64 K]] w fun e w' => e = .returned (.bool true) ∧ Below w.heap.size w w' := by
  have AW : Hid (∀ W, Calls Try.prog 8 #[] W fun e w' => e = .returned (.bool true) ∧ Below W.heap.size W w') := fun W => awake_any W
  have hb0 := below_alloc w (.cells #[.slice ax l.length ca, .int .i64 K] 38)
  have hsz : (w.alloc (.cells #[.slice ax l.length ca, .int .i64 K] 38)).heap.size = w.heap.size + 1 := by simp
  have hbox : (w.alloc (.cells #[.slice ax l.length ca, .int .i64 K] 38)).heap[w.heap.size]? = some (.cells #[.slice ax l.length ca, .int .i64 K] 38 (0, 0)) := heap_alloc_new _ _
  by_cases hin : g.length ≤ 12 ∧ l.length ≤ 100 ∧ May g
  · obtain ⟨hg12, hl100, hmay⟩ := hin
    have BG := hide (begin_yes (w.alloc (.cells #[.slice ax l.length ca, .int .i64 K] 38)) ag ax cg ca g l (hg.below hb0) hfg hg12 hl100 hmay)
    have RM : Hid (∀ W, Below w.heap.size w W → Calls Try.prog 10 #[.slice ag g.length cg, .slice ax l.length ca] W fun e w' => e = .returned (.bool (mayL g l)) ∧ w' = W) := fun W hb => refMayL_any W ag cg g ax ca l (by omega) (hr.below hb) hl100
    cases hm : mayL g l with
    | false =>
      rw [hm] at RM
      have L1 : Hid (∀ W B M v, Gr W B M v g → Below w.heap.size w W → Calls Try.prog 16 #[.pointer (some ⟨B, 0, none⟩), .slice ax l.length ca, .int .i64 K] W fun e w' => e = .returned (.int .i64 (-1)) ∧ w' = W) := fun W B M v h hb => least_no W B M v g ax ca l K h (hr.below hb) hl100 hm
      have L2 : Hid (∀ W B M v, Gr W B M v g → Below w.heap.size w W → Calls Try.prog 17 #[.pointer (some ⟨B, 0, none⟩), .slice ax l.length ca, .int .i64 K] W fun e w' => e = .returned (.int .i64 (-1)) ∧ w' = W) := fun W B M v h hb => most_no W B M v g ax ca l K hK h (hr.below hb) hl100 hm
      have L3 : Hid (∀ W B M v, Gr W B M v g → Below w.heap.size w W → Calls Try.prog 18 #[.pointer (some ⟨B, 0, none⟩), .slice ax l.length ca, .int .i64 K] W fun e w' => e = .returned (.int .i64 (-1)) ∧ w' = W) := fun W B M v h hb => just_no W B M v g ax ca l K h (hr.below hb) hl100 hm
      have HB0 := hide hb0
      have HSZ := hide hsz
      have HBX := hide hbox
      clear hg hfg hi hr hf hm hmay hb0 hsz hbox
      generalize l.length = n at *
      generalize g.length = gl at *
      generalize ins.length = il at *
      go_enter Try.func4, Try.ntmps4
      go_upto_region 2 with (first
        | (go_at_call 7; refine (unhide BG).mono ?_; rintro e w1 ⟨B, M, v, rfl, hG, hb1, hlo⟩))
      have HG := hide hG
      have hbw : Below w.heap.size w w1 := HB0.out.trans (hb1.mono (by rw [HSZ.out]; omega))
      have HBW := hide hbw
      have hbx1 := (hb1.block w.heap.size (by rw [HSZ.out]; omega)).trans HBX.out
      have c0 : w1.cell? ⟨w.heap.size, 0, none⟩ = some (.slice ax n ca) := cell_of_block hbx1 rfl
      have c1 : w1.cell? ⟨w.heap.size, 1, none⟩ = some (.int .i64 K) := cell_of_block hbx1 rfl
      clear hG hbw hb1 hlo hbx1 BG
      have K1 := hide (fun j => unhide L1 (w1.drewN j) B M v (HG.out.drewN j) (below_drewN HBW.out j))
      have K2 := hide (fun j => unhide L2 (w1.drewN j) B M v (HG.out.drewN j) (below_drewN HBW.out j))
      have K3 := hide (fun j => unhide L3 (w1.drewN j) B M v (HG.out.drewN j) (below_drewN HBW.out j))
      have RM2 := hide (fun j => unhide RM (w1.drewN j) (below_drewN HBW.out j))
      go_upto_region 4 with fail
      go_region_held3 (fun z => z.cell? ⟨w.heap.size, 0, none⟩ = some (.slice ax n ca) ∧ z.cell? ⟨w.heap.size, 1, none⟩ = some (.int .i64 K)) (exact ⟨c0, c1⟩)
        (first
          | (go_at_call 16; refine (unhide K1 _).mono ?_; rintro e w' ⟨rfl, hw'⟩; subst w')
          | (go_at_call 17; refine (unhide K2 _).mono ?_; rintro e w' ⟨rfl, hw'⟩; subst w')
          | (go_at_call 18; refine (unhide K3 _).mono ?_; rintro e w' ⟨rfl, hw'⟩; subst w'))
      all_goals
        go_wp2_with (first
          | (go_at_call 10; refine (unhide RM2 _).mono ?_; rintro e w' ⟨rfl, hw'⟩; subst w')
          | (go_at_call 8; refine (unhide AW _).mono ?_; rintro e w2 ⟨rfl, hb2⟩))
        go_ret
        exact ⟨rfl, (below_drewN HBW.out 1).trans (hb2.mono HBW.out.size)⟩
    | true =>
      rw [hm] at RM
      have hm2 := mayL_iff.1 hm
      obtain ⟨n, hn⟩ : ∃ n, l.length = n := ⟨_, rfl⟩
      have h64 : n ≤ 64 := by omega
      obtain ⟨N, hN⟩ : ∃ N, cntT (bitsW ins g l) = N := ⟨_, rfl⟩
      have TR : Hid (∀ W, Below w.heap.size w W → Calls Try.prog 15 #[.slice ag g.length cg, .slice ai ins.length ci, .slice ax n ca] W fun e w' => e = .returned (.int .i64 (N : Int)) ∧ Below W.heap.size W w') := fun W hb => by
        have h := refCount_any W ag ai cg ci g ins ax ca l (hg.below hb) hmay (by omega) (hi.below hb) hil (hr.below hb) hl100 hm2.1
        rwa [hN, hn] at h
      have HVI : Hid (∀ W, Below w.heap.size w W → Vs W ai ins) := fun W hb => hi.below hb
      have GEN : Hid (∀ (f : Nat) (m : List Bool → Bool), (∀ W B M v g', Gr W B M v g' → g'.length ≤ 890000 → Row W ax l → Wt g' l (fun ins => bitsW ins g l) → Calls Try.prog f #[.pointer (some ⟨B, 0, none⟩), .slice ax n ca, .int .i64 K] W (AP W B M v g' 5000 m)) →
          ∀ W1 B M v, Gr W1 B M v g → Below w.heap.size w W1 → (∀ b, Sv B M v b → w.heap.size ≤ b) → ∀ W v' g' k, St W1 W B M v v' g g' k → k ≤ 10000 → Calls Try.prog f #[.pointer (some ⟨B, 0, none⟩), .slice ax n ca, .int .i64 K] W (AP W B M v' g' 5000 m)) := fun f m C W1 B M v h1 h2 h3 W v' g' k s hk =>
        C W B M v' g' s.gr (by have := s.len; omega) (hr.below (Below.kpSv h2 s h3).1) (Wt.grow ⟨hm2.1, fun _ => rfl⟩ s.grow)
      have C1 := unhide GEN 16 (fun ins => decide (K ≤ (cntT (bitsW ins g l) : Int))) (fun W B M v g' a1 a2 a3 a4 => least_yes W B M v g' ax ca l n _ K hK a1 a2 hn h64 a3 hf a4)
      have C2 := unhide GEN 17 (fun ins => decide ((cntT (bitsW ins g l) : Int) ≤ K)) (fun W B M v g' a1 a2 a3 a4 => most_yes W B M v g' ax ca l n _ K hK a1 a2 hn h64 a3 hf a4)
      have C3 := unhide GEN 18 (fun ins => decide ((cntT (bitsW ins g l) : Int) = K)) (fun W B M v g' a1 a2 a3 a4 => just_yes W B M v g' ax ca l n _ K hK a1 a2 hn h64 a3 hf a4)
      obtain ⟨m1, hm1⟩ : ∃ m : List Bool → Bool, (fun ins => decide (K ≤ (cntT (bitsW ins g l) : Int))) = m := ⟨_, rfl⟩
      obtain ⟨m2, hm2'⟩ : ∃ m : List Bool → Bool, (fun ins => decide ((cntT (bitsW ins g l) : Int) ≤ K)) = m := ⟨_, rfl⟩
      obtain ⟨m3, hm3⟩ : ∃ m : List Bool → Bool, (fun ins => decide ((cntT (bitsW ins g l) : Int) = K)) = m := ⟨_, rfl⟩
      rw [hm1] at C1
      rw [hm2'] at C2
      rw [hm3] at C3
      have V1 : Hid (m1 ins = decide (K ≤ (N : Int))) := by rw [← hm1, ← hN]; rfl
      have V2 : Hid (m2 ins = decide ((N : Int) ≤ K)) := by rw [← hm2', ← hN]; rfl
      have V3 : Hid (m3 ins = ((N : Int) == K)) := by rw [← hm3, ← hN]; rfl
      have A1 : Hid (∀ W1 B M v, Gr W1 B M v g → Below w.heap.size w W1 → (∀ b, Sv B M v b → w.heap.size ≤ b) → ∀ W k o2 o3, AS W1 W B M v g k m1 m2 m3 none o2 o3 → k ≤ 10000 → Calls Try.prog 16 #[.pointer (some ⟨B, 0, none⟩), .slice ax n ca, .int .i64 K] W fun e w' => ∃ x, e = .returned (.int .i64 x) ∧ AS W1 w' B M v g (k + 5000) m1 m2 m3 (some x) o2 o3) := fun W1 B M v h1 h2 h3 W k o2 o3 ⟨v', g', s, p1, p2, p3⟩ hk =>
        (C1 W1 B M v h1 h2 h3 W v' g' k s hk).mono fun e w' ⟨x, v2, g2, he, s2, hx⟩ => ⟨x, he, v2, g2, s.trans s2, fun y e => by cases e; exact hx, fun y e => (p2 y e).grow s2.grow, fun y e => (p3 y e).grow s2.grow⟩
      have A2 : Hid (∀ W1 B M v, Gr W1 B M v g → Below w.heap.size w W1 → (∀ b, Sv B M v b → w.heap.size ≤ b) → ∀ W k o1 o3, AS W1 W B M v g k m1 m2 m3 o1 none o3 → k ≤ 10000 → Calls Try.prog 17 #[.pointer (some ⟨B, 0, none⟩), .slice ax n ca, .int .i64 K] W fun e w' => ∃ x, e = .returned (.int .i64 x) ∧ AS W1 w' B M v g (k + 5000) m1 m2 m3 o1 (some x) o3) := fun W1 B M v h1 h2 h3 W k o1 o3 ⟨v', g', s, p1, p2, p3⟩ hk =>
        (C2 W1 B M v h1 h2 h3 W v' g' k s hk).mono fun e w' ⟨x, v2, g2, he, s2, hx⟩ => ⟨x, he, v2, g2, s.trans s2, fun y e => (p1 y e).grow s2.grow, fun y e => by cases e; exact hx, fun y e => (p3 y e).grow s2.grow⟩
      have A3 : Hid (∀ W1 B M v, Gr W1 B M v g → Below w.heap.size w W1 → (∀ b, Sv B M v b → w.heap.size ≤ b) → ∀ W k o1 o2, AS W1 W B M v g k m1 m2 m3 o1 o2 none → k ≤ 10000 → Calls Try.prog 18 #[.pointer (some ⟨B, 0, none⟩), .slice ax n ca, .int .i64 K] W fun e w' => ∃ x, e = .returned (.int .i64 x) ∧ AS W1 w' B M v g (k + 5000) m1 m2 m3 o1 o2 (some x)) := fun W1 B M v h1 h2 h3 W k o1 o2 ⟨v', g', s, p1, p2, p3⟩ hk =>
        (C3 W1 B M v h1 h2 h3 W v' g' k s hk).mono fun e w' ⟨x, v2, g2, he, s2, hx⟩ => ⟨x, he, v2, g2, s.trans s2, fun y e => (p1 y e).grow s2.grow, fun y e => (p2 y e).grow s2.grow, fun y e => by cases e; exact hx⟩
      rw [hn] at RM BG ⊢
      have HB0 := hide hb0
      have HSZ := hide hsz
      have HBX := hide hbox
      have HIL := hide hil
      rw [hn] at HB0 HSZ HBX
      clear C1 C2 C3 GEN hm1 hm2' hm3
      clear hg hfg hi hr hf hm hm2 hmay hn hN hb0 hsz hbox
      obtain ⟨gl, hgle⟩ : ∃ gl, g.length = gl := ⟨_, rfl⟩
      rw [hgle] at hgl hg12 BG RM TR ⊢
      clear hgle
      obtain ⟨il, hile⟩ : ∃ il, ins.length = il := ⟨_, rfl⟩
      rw [hile] at hil HIL TR ⊢
      have HILE := hide hile
      clear hile
      go_enter Try.func4, Try.ntmps4
      go_upto_region 2 with (first
        | (go_at_call 7; refine (unhide BG).mono ?_; rintro e w1 ⟨B, M, v, rfl, hG, hb1, hlo⟩))
      rw [HSZ.out] at hb1 hlo
      have HG := hide hG
      have HBW : Hid (Below w.heap.size w w1) := HB0.out.trans (hb1.mono (by omega))
      have hbx1 := (hb1.block w.heap.size (by omega)).trans HBX.out
      have HLO : Hid (∀ b, Sv B M v b → w.heap.size ≤ b) := fun b h => by have := hlo b h; omega
      have HQ : Hid (w.heap.size < w1.heap.size) := lt_of_block hbx1
      have HNF : Hid (¬ Sv B M v w.heap.size) := fun h => by have := hlo _ h; omega
      have c0 : (w1.drewN 1).cell? ⟨w.heap.size, 0, none⟩ = some (.slice ax n ca) := cell_of_block (W := w1) hbx1 rfl
      have c1 : (w1.drewN 1).cell? ⟨w.heap.size, 1, none⟩ = some (.int .i64 K) := cell_of_block (W := w1) hbx1 rfl
      clear hG hb1 hlo hbx1 BG
      have hs : AS (w1.drewN 1) (w1.drewN 1) B M v g 0 m1 m2 m3 none none none := ⟨v, g, St.refl (HG.out.drewN 1), fun x e => (by cases e), fun x e => (by cases e), fun x e => (by cases e)⟩
      replace A1 := hide (unhide A1 (w1.drewN 1) B M v (HG.out.drewN 1) (below_drewN HBW.out 1) HLO.out)
      replace A2 := hide (unhide A2 (w1.drewN 1) B M v (HG.out.drewN 1) (below_drewN HBW.out 1) HLO.out)
      replace A3 := hide (unhide A3 (w1.drewN 1) B M v (HG.out.drewN 1) (below_drewN HBW.out 1) HLO.out)
      have HC0 := hide c0
      have HC1 := hide c1
      have HQ1 : Hid (w.heap.size < (w1.drewN 1).heap.size) := HQ
      have HBD : Hid (Below w.heap.size w (w1.drewN 1)) := below_drewN HBW.out 1
      go_upto_region 4 with fail
      go_region_held3 (fun z => z.cell? ⟨w.heap.size, 0, none⟩ = some (.slice ax n ca) ∧ z.cell? ⟨w.heap.size, 1, none⟩ = some (.int .i64 K)) (exact ⟨hs.cell HQ1.out HNF.out HC0.out, hs.cell HQ1.out HNF.out HC1.out⟩)
        (first
          | (go_at_call 16; refine (unhide A1 _ _ _ _ hs (by omega)).mono ?_; rintro e w2 ⟨x1, rfl, hs⟩)
          | (go_at_call 17; refine (unhide A2 _ _ _ _ hs (by omega)).mono ?_; rintro e w2 ⟨x2, rfl, hs⟩)
          | (go_at_call 18; refine (unhide A3 _ _ _ _ hs (by omega)).mono ?_; rintro e w2 ⟨x3, rfl, hs⟩))
      all_goals
        obtain ⟨v2, g2, s2, p1, p2, p3⟩ := hs
        have HB2 := hide (Below.kpSv HBD.out s2 HLO.out).1
        have HS2 := hide s2
        have Q1 := hide (p1 x1 rfl)
        have Q2 := hide (p2 x2 rfl)
        have Q3 := hide (p3 x3 rfl)
        have d0 := s2.cell HQ1.out HNF.out HC0.out
        have d1 := s2.cell HQ1.out HNF.out HC1.out
        have HQ2 : Hid (w.heap.size < w2.heap.size) := World.block_lt_of_cell? _ _ d0
        have RM2 := hide (unhide RM w2 HB2.out)
        have i1 : (0 : Int) ≤ x1 := ((isB_iff.1 (p1 x1 rfl).1)).1
        have i2 : (0 : Int) ≤ x2 := ((isB_iff.1 (p2 x2 rfl).1)).1
        have i3 : (0 : Int) ≤ x3 := ((isB_iff.1 (p3 x3 rfl).1)).1
        clear s2 p1 p2 p3 A1 A2 A3 HC0 HC1 HQ1 HNF c0 c1 RM
        by_cases h30 : (30 : Int) < (n : Int)
        · go_wp2_with (first
            | (go_at_call 10; refine (unhide RM2).mono ?_; rintro e w' ⟨rfl, hw'⟩; subst w')
            | (go_at_call 8; refine (unhide AW _).mono ?_; rintro e w3 ⟨rfl, hb3⟩))
          go_ret
          exact ⟨rfl, HB2.out.trans (hb3.mono HB2.out.size)⟩
        · go_upto_region 11 with (first
            | (go_at_call 10; refine (unhide RM2).mono ?_; rintro e w' ⟨rfl, hw'⟩; subst w')
            | (go_at_call 15; refine (unhide TR _ HB2.out).mono ?_; rintro e w3 ⟨rfl, hb3⟩)
            | (go_at_call 13; refine (nodes_any w3 B M v2 g2 (HS2.out.gr.below hb3)).mono ?_; rintro e w4 ⟨al4, cap4, rfl, hs4, hb4, hf4⟩; have EV := eval_any w4 al4 cap4 g2 hs4 HS2.out.gr.le HS2.out.gr.may ai ci ins (unhide HVI _ ((HB2.out.trans (hb3.mono HB2.out.size)).trans (hb4.mono (Nat.le_trans HB2.out.size hb3.size)))) (by rw [HILE.out]; exact HIL.out); rw [HILE.out] at EV)
            | (go_at_call 12; refine EV.mono ?_; rintro e w5 ⟨q5, cap5, rfl, hv5, hb5⟩))
          have HB5 : Hid (Below w2.heap.size w2 w5) := (hb3.trans (hb4.mono hb3.size)).trans (hb5.mono (Nat.le_trans hb3.size hb4.size))
          have HD1 : Hid (w5.cell? ⟨w.heap.size, 1, none⟩ = some (.int .i64 K)) := (World.cell?_of_block (HB5.out.block _ HQ2.out)).trans d1
          have HV5 := hide hv5
          have HLV : Hid ((allV ins g2).length ≤ 1000000) := by unfold Hid; rw [allV_len]; exact HS2.out.gr.le
          have HQ5 : Hid (w.heap.size < w5.heap.size) := Nat.lt_of_lt_of_le HQ2.out HB5.out.size
          have GV : Hid (∀ x m b, Lt g2 x m → m ins = b → ∀ j, Calls Try.prog 19 #[.slice (some ⟨q5, 0, none⟩) (allV ins g2).length cap5, .int .i64 x] (w5.drewN j) fun e w' => e = .returned (.bool b) ∧ ∃ k, w' = w5.drewN k) := fun x m b hx hb j =>
            (value_any (w5.drewN j) _ cap5 (allV ins g2) x (HV5.out.below (below_drewN (Below.refl _ _) j)) HLV.out).mono fun e w' ⟨he, k, hw'⟩ => ⟨by rw [he, hx.2 ins, hb], j + k, by rw [hw', World.drewN_drewN]⟩
          have U1 := hide (unhide GV x1 m1 _ Q1.out V1.out)
          have U2 := hide (unhide GV x2 m2 _ Q2.out V2.out)
          have U3 := hide (unhide GV x3 m3 _ Q3.out V3.out)
          clear GV HV5 HLV hv5 hb5 hb4 hb3 hs4 hf4 EV d0 V1 V2 V3
          generalize (allV ins g2).length = vl at *
          obtain ⟨b1, e1⟩ : ∃ b, decide (K ≤ (N : Int)) = b := ⟨_, rfl⟩
          obtain ⟨b2, e2⟩ : ∃ b, decide ((N : Int) ≤ K) = b := ⟨_, rfl⟩
          obtain ⟨b3, e3⟩ : ∃ b, ((N : Int) == K) = b := ⟨_, rfl⟩
          rw [e1] at U1
          rw [e2] at U2
          rw [e3] at U3
          have UV : Hid (∀ j x b, (x = x1 ∧ b = b1) ∨ (x = x2 ∧ b = b2) ∨ (x = x3 ∧ b = b3) → Calls Try.prog 19 #[.slice (some ⟨q5, 0, none⟩) vl cap5, .int .i64 x] (w5.drewN j) fun e w' => e = .returned (.bool b) ∧ ∃ k, w' = w5.drewN k) := by
            rintro j x b (⟨rfl, rfl⟩ | ⟨rfl, rfl⟩ | ⟨rfl, rfl⟩)
            · exact U1.out j
            · exact U2.out j
            · exact U3.out j
          clear d1 U1 U2 U3
          have d1 := HD1.out
          go_region_held3 (fun z => z.cell? ⟨w.heap.size, 1, none⟩ = some (.int .i64 K)) (first | exact HD1.out | exact y6)
            (first
              | (go_at_call 19; refine (unhide UV _ _ _ (by first | exact .inl ⟨rfl, rfl⟩ | exact .inr (.inl ⟨rfl, rfl⟩) | exact .inr (.inr ⟨rfl, rfl⟩))).mono ?_; rintro e w' ⟨rfl, k1, hw'⟩; subst w')
              | (go_at_call 8; refine (unhide AW _).mono ?_; rintro e w6 ⟨rfl, hb6⟩; have y6 := (World.cell?_of_block (hb6.block _ HQ5.out)).trans HD1.out))
          all_goals
            have HBZ := HB2.out.trans (HB5.out.mono HB2.out.size)
            have HBY := hide ((below_drewN HBZ _).trans (hb6.mono HBZ.size))
            go_wp2
            go_ret
            exact ⟨rfl, HBY.out⟩
  · have BG := hide (begin_no (w.alloc (.cells #[.slice ax l.length ca, .int .i64 K] 38)) ag ax cg ca g l (hg.below hb0) hgl hal (by
      by_cases h1 : 12 < g.length
      · exact .inl h1
      by_cases h2 : 100 < l.length
      · exact .inr (.inl h2)
      exact .inr (.inr fun h => hin ⟨by omega, by omega, h⟩)))
    have HB0 := hide hb0
    have HSZ := hide hsz
    clear hg hfg hi hr hf hin hb0 hsz hbox
    unfold maxLen at hgl hal hil
    generalize l.length = n at *
    generalize g.length = gl at *
    generalize ins.length = il at *
    go_enter Try.func4, Try.ntmps4
    go_wp2_with (first
      | (go_at_call 7; refine (unhide BG).mono ?_; rintro e w1 ⟨rfl, hb1⟩)
      | (go_at_call 8; refine (unhide AW _).mono ?_; rintro e w2 ⟨rfl, hb2⟩))
    go_ret
    have hbw : Below w.heap.size w w1 := HB0.out.trans (hb1.mono (by rw [HSZ.out]; omega))
    exact ⟨rfl, hbw.trans (hb2.mono hbw.size)⟩
end
end Go.Proofs.Ytbilhiklfficoaa
