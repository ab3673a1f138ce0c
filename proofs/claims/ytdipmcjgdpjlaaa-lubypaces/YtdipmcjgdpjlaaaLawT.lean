/- The law of ticks, walked. -/
import Derived.Test.YtdipmcjgdpjlaaaWalkE
set_option linter.unusedVariables false
set_option linter.unusedSimpArgs false
namespace Go.Proofs.Ytdipmcjgdpjlaaa
open Go.RowKit

/-- Two paces in boxes, behind what was there. -/
structure Tw (w W : World) (b c : Nat) (U A L X Y Z : Int) : Prop where
  p : Tri W b U A L
  q : Tri W c X Y Z
  bel : Below w.heap.size w W
  hb : w.heap.size ≤ b
  hc : w.heap.size ≤ c
  ne : b ≠ c
section
variable {w W W' : World} {b c : Nat} {U A L X Y Z : Int}
theorem Tw.below (h : Tw w W b c U A L X Y Z) (hb : Below W.heap.size W W') : Tw w W' b c U A L X Y Z :=
  ⟨h.p.below hb h.p.lt, h.q.below hb h.q.lt, h.bel.trans (hb.mono h.bel.size), h.hb, h.hc, h.ne⟩
theorem Tw.alloc (h : Tw w W b c U A L X Y Z) (o : Obj) : Tw w (W.alloc o) b c U A L X Y Z := h.below ((Below.refl _ _).alloc (Nat.le_refl _) _)
theorem Tw.drewN (h : Tw w W b c U A L X Y Z) (n : Nat) : Tw w (W.drewN n) b c U A L X Y Z := ⟨h.p, h.q, below_drewN h.bel n, h.hb, h.hc, h.ne⟩
end
theorem tw_new (w W : World) (U A L X Y Z : Int) (h : Below (w.alloc (.cells #[.int .i64 U, .int .i64 A, .int .i64 L] 30)).heap.size (w.alloc (.cells #[.int .i64 U, .int .i64 A, .int .i64 L] 30)) W) : Tw w (W.alloc (.cells #[.int .i64 X, .int .i64 Y, .int .i64 Z] 30)) w.heap.size W.heap.size U A L X Y Z := by
  have hs := h.size
  simp at hs
  have p1 := (tri_new w U A L).below h (by simp)
  exact ⟨p1.alloc _, tri_new W X Y Z, (((Below.refl _ _).alloc (Nat.le_refl _) _).trans (h.mono (by simp))).alloc (by omega) _, Nat.le_refl _, by omega, by omega⟩

set_option maxHeartbeats 4000000 in
set_option maxRecDepth 100000 in
theorem ticks_no (U A L k : Int) (w : World) (h : mayB U A L = false) : Calls Try.prog 5 #[.agg #[.int .i64 U, .int .i64 A, .int .i64 L], .int .u8 k] w fun e w' => e = .returned (.bool true) ∧ Below w.heap.size w w' := by
  have CA : Hid (∀ W, Calls Try.prog 10 #[] W fun e w' => e = .returned (.bool true) ∧ w' = W) := fun W => awake_any W
  have CT : Hid (∀ W, Calls Try.prog 12 #[.agg #[.int .i64 U, .int .i64 A, .int .i64 L]] W fun e w' => e = .returned (.tuple #[.agg #[.int .i64 0, .int .i64 0, .int .i64 0], .bool false]) ∧ Below W.heap.size W w') := fun W => tick_no U A L W h
  have CM : Hid (∀ W, Calls Try.prog 13 #[.agg #[.int .i64 U, .int .i64 A, .int .i64 L]] W fun e w' => e = .returned (.bool false) ∧ Below W.heap.size W w') := fun W => by
    have := refMay_any U A L W
    rw [h] at this; exact this
  have CC : Hid (∀ W, Calls Try.prog 14 #[.agg #[.int .i64 U, .int .i64 A, .int .i64 L]] W fun e w' => e = .returned (.int .i64 1) ∧ Below W.heap.size W w') := fun W => check_no U A L W h
  have CL : Hid (∀ W, Calls Try.prog 15 #[.agg #[.int .i64 U, .int .i64 A, .int .i64 L]] W fun e w' => e = .returned (.int .i64 0) ∧ Below W.heap.size W w') := fun W => until_no U A L W h
  clear h
  go_enter Try.func5, Try.ntmps5
  go_upto_region 2 with (go_at_call 12; refine (unhide CT _).mono ?_; rintro e w1 ⟨rfl, hb1⟩)
  refine forget (P := fun W => Code.wp Try.prog _ _ _ W) (fun W => Tw w W w.heap.size w1.heap.size U A L 0 0 0) (tw_new w w1 U A L 0 0 0 hb1) ?_
  clear hb1
  intro W HT
  generalize w1.heap.size = c at *
  generalize w.heap.size = b at HT
  have HT0 := hide HT
  obtain ⟨p0, p1, p2, pf⟩ := HT.p.all
  clear HT CT
  go_upto_region 3 with (go_at_call 13; refine (unhide CM _).mono ?_; rintro e w2 ⟨rfl, hb2⟩; have HT2 := hide (HT0.out.below hb2); clear hb2)
  clear p0 p1 p2 pf HT0 CM W
  obtain ⟨p0, p1, p2, pf⟩ := HT2.out.p.all
  obtain ⟨q0, q1, q2, qf⟩ := HT2.out.q.all
  go_wp2_with (first
    | (go_at_call 14; refine (unhide CC _).mono ?_; rintro e w3 ⟨rfl, hb3⟩; have HT3 := hide (HT2.out.below hb3); clear hb3; obtain ⟨x0, x1, x2, xf⟩ := HT3.out.p.all; obtain ⟨y0, y1, y2, yf⟩ := HT3.out.q.all)
    | (go_at_call 15; refine (unhide CL _).mono ?_; rintro e w4 ⟨rfl, hb4⟩; have HT4 := hide (HT3.out.below hb4); clear hb4)
    | (go_at_call 10; refine (unhide CA _).mono ?_; rintro e w0 ⟨rfl, hw0⟩; subst w0))
  go_ret
  exact ⟨rfl, HT4.out.bel⟩

theorem mayB_nats {U A L : Int} (h : mayB U A L = true) : ∃ u n l : Nat, U = (u : Int) ∧ A = (n : Int) ∧ L = (l : Int) ∧ 1 ≤ u ∧ u ≤ 1048576 ∧ 1 ≤ n ∧ n ≤ 1073741824 ∧ 1 ≤ l ∧ (l : Int) ≤ (u : Int) * (lub n : Int) ∧ l ≤ 1125899906842624 := by
  rcases mayB_cases U A L with ⟨h0, _⟩ | ⟨h0, _⟩ | ⟨h0, _⟩ | ⟨h1, h2, h3⟩
  · rw [h0] at h; simp at h
  · rw [h0] at h; simp at h
  · rw [h0] at h; simp at h
  · rw [mayB_last h1 h2 h3] at h
    obtain ⟨u1, u2⟩ := inB_true h1
    obtain ⟨a1, a2⟩ := inB_true h2
    have hl := lub_bd (n := A.toNat) (by omega) (by omega)
    have hp := prod_bd u1 u2 (l := (lub A.toNat : Int)) (by omega) (by omega)
    simp only [decide_eq_true_eq] at h
    refine ⟨U.toNat, A.toNat, L.toNat, by omega, by omega, by omega, by omega, by omega, by omega, by omega, by omega, ?_, by omega⟩
    have e1 : (U.toNat : Int) = U := by omega
    have e2 : (L.toNat : Int) = L := by omega
    rw [e1, e2]; exact h
theorem mayB_mk {u n : Nat} {L : Int} (u1 : 1 ≤ u) (u2 : u ≤ 1048576) (n1 : 1 ≤ n) (n2 : n ≤ 1073741824) (l1 : 1 ≤ L) (l2 : L ≤ (u : Int) * (lub n : Int)) : mayB u n L = true := by
  rw [mayB_last (inB_mk (by omega) (by omega)) (inB_mk (by omega) (by omega)) l1, Int.toNat_natCast]
  simp only [decide_eq_true_eq]; exact l2

/-- Both ticks tell the same, and what is told may be. -/
theorem tick_both {U A L : Int} (h : mayB U A L = true) : ∃ (A' L' : Int) (g : Bool), mayB U A' L' = true ∧
    (∀ W, Calls Try.prog 12 #[.agg #[.int .i64 U, .int .i64 A, .int .i64 L]] W fun e w' => e = .returned (.tuple #[.agg #[.int .i64 U, .int .i64 A', .int .i64 L'], .bool g]) ∧ Below W.heap.size W w') ∧
    (∀ W, Calls Try.prog 16 #[.agg #[.int .i64 U, .int .i64 A, .int .i64 L]] W fun e w' => e = .returned (.tuple #[.agg #[.int .i64 U, .int .i64 A', .int .i64 L'], .bool g]) ∧ Below W.heap.size W w') := by
  obtain ⟨u, n, l, rfl, rfl, rfl, u1, u2, n1, n2, l1, l2, l3⟩ := mayB_nats h
  by_cases hl : l = 1
  · subst hl
    have hm : 1 ≤ (if n = 1073741824 then 1 else n + 1) ∧ (if n = 1073741824 then 1 else n + 1) ≤ 1073741824 := by split <;> omega
    generalize e : (if n = 1073741824 then 1 else n + 1) = m at hm
    have hb := lub_bd hm.1 hm.2
    have hp := prod_bd (U := (u : Int)) (by omega) (by omega) (l := (lub m : Int)) (by omega) (by omega)
    exact ⟨m, (u : Int) * (lub m : Int), true, mayB_mk u1 u2 hm.1 hm.2 hp.1 (Int.le_refl _), fun W => tick_anew u n W u1 u2 n1 n2 m e.symm, fun W => refTick_anew u n W u1 u2 n1 n2 m e.symm⟩
  · exact ⟨n, (l : Int) - 1, false, mayB_mk u1 u2 n1 n2 (by omega) (by omega), fun W => tick_one u n l W h (by omega) (by omega), fun W => refTick_one u n l W (by omega) (by omega)⟩

theorem Tw.second {w W : World} {b c : Nat} {U A L X Y Z : Int} (h : Tw w W b c U A L X Y Z) : Tw w (W.alloc (.cells #[.int .i64 U, .int .i64 A, .int .i64 L] 30)) b W.heap.size U A L U A L :=
  ⟨h.p.alloc _, tri_new W U A L, h.bel.alloc h.bel.size _, h.hb, h.bel.size, by have := h.p.lt; omega⟩
/-- Both are stored anew. -/
theorem Tw.both {w W : World} {b c : Nat} {U A L X Y Z : Int} (h : Tw w W b c U A L X Y Z) (u a l x y z : Int) :
    Tw w (((((((W.setCell ⟨b, 0, none⟩ (.int .i64 u)).setCell ⟨b, 1, none⟩ (.int .i64 a)).setCell ⟨b, 2, none⟩ (.int .i64 l)).setCell ⟨c, 0, none⟩ (.int .i64 x)).setCell ⟨c, 1, none⟩ (.int .i64 y)).setCell ⟨c, 2, none⟩ (.int .i64 z))) b c u a l x y z :=
  ⟨(h.p.put u a l).off h.ne _ _ _, (h.q.off (Ne.symm h.ne) _ _ _).put x y z, below_put (below_put h.bel h.hb _ _ _) h.hc _ _ _, h.hb, h.hc, h.ne⟩

theorem Tw.swap {w W : World} {b c : Nat} {U A L X Y Z : Int} (h : Tw w W b c U A L X Y Z) : Tw w W c b X Y Z U A L := ⟨h.q, h.p, h.bel, h.hc, h.hb, Ne.symm h.ne⟩
theorem Tw.drew {w W : World} {b c : Nat} {U A L X Y Z : Int} (h : Tw w W b c U A L X Y Z) : Tw w W.drew b c U A L X Y Z := h.drewN 1
/-- Two more paces in boxes. -/
structure Fo (w W : World) (b c x y : Nat) (U A L X Y : Int) : Prop where
  t : Tw w W b c U A L U A L
  tx : Tri W x U X Y
  ty : Tri W y U X Y
  xb : x ≠ b
  xc : x ≠ c
  yb : y ≠ b
  yc : y ≠ c
theorem Fo.mk' {w W W2 : World} {b c : Nat} {U A L X Y : Int} (h : Tw w W b c U A L U A L) (hb : Below (W.alloc (.cells #[.int .i64 U, .int .i64 X, .int .i64 Y] 30)).heap.size (W.alloc (.cells #[.int .i64 U, .int .i64 X, .int .i64 Y] 30)) W2) :
    Fo w (W2.alloc (.cells #[.int .i64 U, .int .i64 X, .int .i64 Y] 30)) b c W.heap.size W2.heap.size U A L X Y := by
  have h2 := (h.alloc (.cells #[.int .i64 U, .int .i64 X, .int .i64 Y] 30)).below hb
  have x2 := (tri_new W U X Y).below hb (by simp)
  have l1 := h.p.lt
  have l2 := h.q.lt
  have l3 := h2.p.lt
  have l4 := h2.q.lt
  exact ⟨h2.alloc _, x2.alloc _, tri_new W2 U X Y, by omega, by omega, by omega, by omega⟩

/-- A region that draws its order, its worlds all of one kind. -/
theorem wp_region_class {P : Program} {C : World → Prop} {id : Nat} {Q : Exit → Act → World → Prop} {a : Act} {w : World} {l : List Oper} (hm : P.follows .mixedOrders = true) (hB : Region.lexB .any l.toArray = true) (hC : C { w with drawn := w.drawn + 1 })
    (h : wpQuiet P l.toArray C (fun a' => ∀ w', C w' → Q .normal a' w') l a) : (Code.region id l.toArray true).wp P Q a w :=
  wp_region_quiet (C := C) hm hB hC (by simpa using h)
/-- A world with two paces in boxes. -/
structure TwW (w : World) (b c : Nat) (U A L X Y Z : Int) where
  W : World
  h : Tw w W b c U A L X Y Z

set_option maxHeartbeats 4000000 in
set_option maxRecDepth 100000 in
theorem ticks_yes (U A L k : Int) (w : World) (h : mayB U A L = true) (hk0 : 0 ≤ k) (hk1 : k ≤ 255) : Calls Try.prog 5 #[.agg #[.int .i64 U, .int .i64 A, .int .i64 L], .int .u8 k] w fun e w' => e = .returned (.bool true) ∧ Below w.heap.size w w' := by
  have CA : Hid (∀ W, Calls Try.prog 10 #[] W fun e w' => e = .returned (.bool true) ∧ w' = W) := fun W => awake_any W
  obtain ⟨X, Y, g, hXY, C1, C2⟩ := tick_both h
  have CT := hide C1
  have CM : Hid (∀ W, Calls Try.prog 13 #[.agg #[.int .i64 U, .int .i64 A, .int .i64 L]] W fun e w' => e = .returned (.bool true) ∧ Below W.heap.size W w') := fun W => by
    have := refMay_any U A L W
    rw [h] at this; exact this
  have CC : Hid (∀ W, Calls Try.prog 14 #[.agg #[.int .i64 U, .int .i64 A, .int .i64 L]] W fun e w' => e = .returned (.int .i64 0) ∧ Below W.heap.size W w') := fun W => check_yes U A L W h
  have CL : Hid (∀ W, Calls Try.prog 15 #[.agg #[.int .i64 U, .int .i64 A, .int .i64 L]] W fun e w' => e = .returned (.int .i64 L) ∧ Below W.heap.size W w') := fun W => until_yes U A L W h
  have HH := hide h
  clear h C1 C2 hXY
  go_enter Try.func5, Try.ntmps5
  go_upto_region 2 with (go_at_call 12; refine (unhide CT _).mono ?_; rintro e w1 ⟨rfl, hb1⟩)
  refine forget (P := fun W => Code.wp Try.prog _ _ _ W) (fun W => Tw w W w.heap.size w1.heap.size U A L U X Y) (tw_new w w1 U A L U X Y hb1) ?_
  clear hb1
  intro W HT
  generalize w1.heap.size = c at *
  generalize w.heap.size = b at HT
  have HT0 := hide HT
  obtain ⟨p0, p1, p2, pf⟩ := HT.p.all
  clear HT CT
  go_upto_region 4 with (go_at_call 13; refine (unhide CM _).mono ?_; rintro e w2 ⟨rfl, hb2⟩; have HT2 := hide (HT0.out.below hb2); clear hb2)
  clear p0 p1 p2 pf HT0 CM W
  go_cut [50] from 41 to 50 (fun x wx => x = .bool false ∧ Hid (Tw w wx b c U A L U X Y))
  case first =>
    have k0 : ∀ p : TwW w b c U A L U X Y, p.W.cell? ⟨b, 0, none⟩ = some (.int .i64 U) := fun p => p.h.p.c0
    have k1 : ∀ p : TwW w b c U A L U X Y, p.W.cell? ⟨b, 1, none⟩ = some (.int .i64 A) := fun p => p.h.p.c1
    have k2 : ∀ p : TwW w b c U A L U X Y, p.W.cell? ⟨b, 2, none⟩ = some (.int .i64 L) := fun p => p.h.p.c2
    have inst : Nonempty (TwW w b c U A L U X Y) := ⟨⟨_, HT2.out⟩⟩
    refine wp_region_class (C := fun W' => ∃ p : TwW w b c U A L U X Y, W' = p.W) (by kernel_rfl) (by kernel_rfl) ⟨⟨_, HT2.out.drewN 1⟩, rfl⟩ ?_
    repeat (go_big_quiet_step ((first | (go_at_call 14; rename_i p; refine (unhide CC _).mono ?_; rintro e w3 ⟨rfl, hb3⟩; exact ⟨rfl, ⟨_, p.h.below hb3⟩, rfl⟩) | (go_at_call 15; rename_i p; refine (unhide CL _).mono ?_; rintro e w3 ⟨rfl, hb3⟩; exact ⟨rfl, ⟨_, p.h.below hb3⟩, rfl⟩))))
    refine wpQuiet_nil ?_
    rintro _ ⟨p, rfl⟩
    go_wp2_with fail
    go_meet
    case rel => exact ⟨rfl, p.h⟩
  case rest =>
  obtain ⟨rfl, HT3⟩ := hcut
  clear HT2 CC CL
  rename World => WX
  obtain ⟨p0, p1, p2, pf⟩ := HT3.out.p.all
  go_upto_region 7 with fail
  refine forget (P := fun W => Code.wp Try.prog _ _ _ W) (fun W => Tw w W b WX.heap.size U A L U A L) HT3.out.second ?_
  intro W HT
  have HT0 := hide HT
  clear HT p0 p1 p2 pf HT3
  generalize WX.heap.size = d at *
  obtain ⟨K, rfl⟩ : ∃ K : Nat, k = (K : Int) := ⟨k.toNat, by omega⟩
  go_wp2
  go_loopw [8] (fun i W => ∃ (m : Nat) (A L : Int), m ≤ K ∧ i = .int .i64 (m : Int) ∧ Hid (Tw w W b d U A L U A L) ∧ Hid (mayB U A L = true)) (fun i _ => K - (intOf i).toNat)
  case atStart => exact ⟨0, A, L, Nat.zero_le _, rfl, HT0, HH⟩
  case round =>
    obtain ⟨m, A, L, hm, rfl, HT, HM⟩ := hrel
    clear HT0 HH
    obtain ⟨X', Y', g', hXY, C1, C2⟩ := tick_both HM.out
    have CT := hide C1
    have CR := hide C2
    have HXY := hide hXY
    clear C1 C2 hXY HM
    by_cases hlt : m < K
    · obtain ⟨p0, p1, p2, pf⟩ := HT.out.p.all
      go_upto_region 11 with (go_at_call 12; refine (unhide CT _).mono ?_; rintro e w2 ⟨rfl, hb2⟩; have HT2 := hide (HT.out.below hb2); clear hb2)
      clear p0 p1 p2 pf HT CT
      have HT3 := hide (HT2.out.alloc (.cells #[.int .i64 U, .int .i64 X', .int .i64 Y'] 30))
      obtain ⟨q0, q1, q2, qf⟩ := HT3.out.q.all
      go_upto_region 12 with (go_at_call 16; refine (unhide CR _).mono ?_; rintro e w3 ⟨rfl, hb3⟩)
      refine forget (P := fun W => Code.wp Try.prog _ _ _ W) (fun W => Fo w W b d w2.heap.size w3.heap.size U A L X' Y') (Fo.mk' HT2.out hb3) ?_
      intro W4 HF
      clear q0 q1 q2 qf HT3 HT2 CR hb3
      generalize w2.heap.size = x at *
      generalize w3.heap.size = y at *
      have HF0 := hide HF
      obtain ⟨x0, x1, x2, xf⟩ := HF.tx.all
      obtain ⟨y0, y1, y2, yf⟩ := HF.ty.all
      obtain ⟨p0, p1, p2, pf⟩ := HF.t.p.all
      obtain ⟨q0, q1, q2, qf⟩ := HF.t.q.all
      obtain ⟨n1, n2, n3, n4, n5⟩ : x ≠ b ∧ x ≠ d ∧ y ≠ b ∧ y ≠ d ∧ b ≠ d := ⟨HF.xb, HF.xc, HF.yb, HF.yc, HF.t.ne⟩
      have n1' := Ne.symm n1
      have n2' := Ne.symm n2
      have n3' := Ne.symm n3
      have n4' := Ne.symm n4
      have n5' := Ne.symm n5
      clear HF
      cases g'
      all_goals
        go_upto_region 14 with fail
        clear CA
        have f0 := pf 0
        have f1 := pf 1
        have f2 := pf 2
        have f3 := qf 0
        have f4 := qf 1
        have f5 := qf 2
        clear pf qf xf yf
        go_region_held3 (fun w' => (w'.cell? ⟨x, 0, none⟩ = some (.int .i64 U) ∧ w'.cell? ⟨x, 1, none⟩ = some (.int .i64 X') ∧ w'.cell? ⟨x, 2, none⟩ = some (.int .i64 Y')) ∧ (w'.cell? ⟨y, 0, none⟩ = some (.int .i64 U) ∧ w'.cell? ⟨y, 1, none⟩ = some (.int .i64 X') ∧ w'.cell? ⟨y, 2, none⟩ = some (.int .i64 Y'))) (go_keep) (fail)
        refine forget (P := fun W => Exit.inBlock _ _ _ _ W) (fun W => Tw w W b d U X' Y' U X' Y') (HF0.out.t.both U X' Y' U X' Y').drew ?_
        clear HF0 x0 x1 x2 y0 y1 y2 p0 p1 p2 q0 q1 q2 f0 f1 f2 f3 f4 f5 n1 n2 n3 n4 n5 n1' n2' n3' n4' n5'
        intro W5 HT5
        have HT6 := hide HT5
        clear HT5
        go_wp2
        go_roundw
        case rel => exact ⟨m + 1, X', Y', by omega, by go_num, HT6, HXY⟩
        case measure => simp [intOf]; omega
    · clear CT CR HXY
      go_wp2_with (go_at_call 10; refine (unhide CA _).mono ?_; rintro e w0 ⟨rfl, hw0⟩; subst w0)
      go_ret
      exact ⟨rfl, HT.out.bel⟩

theorem ticks_any (U A L k : Int) (w : World) (hk0 : 0 ≤ k) (hk1 : k ≤ 255) : Calls Try.prog 5 #[.agg #[.int .i64 U, .int .i64 A, .int .i64 L], .int .u8 k] w fun e w' => e = .returned (.bool true) ∧ Below w.heap.size w w' := by
  cases h : mayB U A L
  · exact ticks_no U A L k w h
  · exact ticks_yes U A L k w h hk0 hk1

end Go.Proofs.Ytdipmcjgdpjlaaa
