/- The law of scaling, walked. -/
import Derived.Test.YtidhnmooloedmaaWalkZ
set_option linter.unusedVariables false
set_option linter.unusedSimpArgs false
namespace Go.Proofs.Ytidhnmooloedmaa
open Go.RowKit

theorem decayed_mono {n : Nat} {s t : HS} (hz : Sz n s) (hl : Like n s.decayed t) {p q : Nat} (hp : p ≤ n) (hq : q ≤ n) (h : s.sc q ≤ s.sc p) : t.sc q ≤ t.sc p := by
  obtain ⟨_, d2, _⟩ := decay_doc hz hl
  rw [d2 p hp, d2 q hq]
  unfold scT
  split
  · omega
  · exact h

theorem play_sd {w w1 : World} {B S P O c a ca b cb n : Nat} {s : HS} (hp : Hp w1 B S P O c n s) (hr : Rf w1 a ca b cb n (inB s.pl) s.sc) (hb : Below w.heap.size w w1) (hl : w.heap.size ≤ B ∧ w.heap.size ≤ S ∧ w.heap.size ≤ P ∧ w.heap.size ≤ O) (bS : b ≠ S) (bP : b ≠ P) (bO : b ≠ O) :
    Sd w (w1.alloc (.cells (rv a ca b cb n s.st) 27)) w1.heap.size B S P O c n a ca b cb s s := by
  have hbx : Below w1.heap.size w1 (w1.alloc (.cells (rv a ca b cb n s.st) 27)) := (Below.refl _ _).alloc (Nat.le_refl _) _
  exact ⟨hp.below hbx, hr.below hbx, heap_alloc_new w1 _, bS, bP, bO, hb.size, hl.1, hl.2.1, hl.2.2.1, hl.2.2.2, hb.trans (hbx.mono hb.size)⟩

set_option maxHeartbeats 4000000 in
set_option maxRecDepth 100000 in
theorem scales_any (w : World) (al : Option Addr) (cap : Nat) (l : List ActD) (hl : Acts w al l) (hll : l.length ≤ maxLen) (x y : Int) (hx0 : 0 ≤ x) (hx1 : x ≤ 255) (hy0 : 0 ≤ y) (hy1 : y ≤ 255) :
    Calls Try.prog 5 #[.slice al l.length cap, .int .u8 x, .int .u8 y] w fun e w' => e = .returned (.bool true) ∧ Below w.heap.size w w' := by
  have GP := hide (play_any w 5 (by omega) al cap l hl hll)
  obtain ⟨xm, hxm⟩ : ∃ xm : Nat, x % 5 = (xm : Int) := ⟨(x % 5).toNat, by omega⟩
  obtain ⟨ym, hym⟩ : ∃ ym : Nat, y % 5 = (ym : Int) := ⟨(y % 5).toNat, by omega⟩
  obtain ⟨p, hp5⟩ : ∃ p : Nat, 1 + (xm : Int) = (p : Int) := ⟨1 + xm, by omega⟩
  obtain ⟨q, hq5⟩ : ∃ q : Nat, 1 + (ym : Int) = (q : Int) := ⟨1 + ym, by omega⟩
  have p1 : 1 ≤ p := by omega
  have p2 : p ≤ 5 := by omega
  have q1 : 1 ≤ q := by omega
  have q2 : q ≤ 5 := by omega
  have G9 : Hid (∀ W, Calls Try.prog 9 #[] W fun e w' => e = .returned (.bool true) ∧ Below W.heap.size W w') := fun W => awake_any W
  clear hl hll
  go_enter Try.func5, Try.ntmps5
  go_upto_region 2 with (first | (go_at_call 7; refine (unhide GP).mono ?_; rintro e w1 ⟨B, S, P, O, c, a, ca, b, cb, s, rfl, hp, hF, hr, hb, hlo, bS, bP, bO⟩; unfold rv))
  have HS0 := hide (play_sd hp hr hb hlo bS bP bO)
  have HF0 := hide hF
  clear hp hF hr hb hlo bS bP bO GP
  refine forget (P := fun W => Code.wp Try.prog _ _ _ W) (fun W => Hid (Sd w W w1.heap.size B S P O c 5 a ca b cb s s)) HS0 ?_
  intro W1 HS1
  obtain ⟨X, hX⟩ : ∃ X, X = w1.heap.size := ⟨_, rfl⟩
  rw [← hX] at HS1 ⊢
  clear hX HS0
  have GSc : Hid (∀ u : Nat, 1 ≤ u → u ≤ 5 → Calls Try.prog 14 #[.pointer (some ⟨B, 0, none⟩), .int .i64 (u : Int)] W1 fun e w' => e = .returned (.int .i64 (s.sc u)) ∧ w' = W1) := fun u a b => score_yes W1 B S P O c 5 s u HS1.out.hp a b
  go_upto_region 6 with (first | (go_at_call 14; refine (unhide GSc _ (by omega) (by omega)).mono ?_; rintro e w0 ⟨rfl, hw0⟩; subst w0))
  clear GSc
  obtain ⟨was, hwas⟩ : ∃ was : Bool, was = decide (s.sc q < s.sc p) := ⟨_, rfl⟩
  rw [← hwas]
  have HW : Hid (was = true → s.sc q ≤ s.sc p) := by
    intro h
    rw [h] at hwas
    have := of_decide_eq_true hwas.symm
    omega
  clear hwas hxm hym hp5 hq5
  go_wp2
  go_loopw [13] (fun z W => ∃ (k S P O c a ca b cb : Nat) (s : HS), k ≤ 300 ∧ z = .int .i64 (k : Int) ∧ Hid (Sd w W X B S P O c 5 a ca b cb s s) ∧ Hid (Full 5 s) ∧ Hid (was = true → s.sc q ≤ s.sc p)) (fun z _ => 301 - (intOf z).toNat)
  case atStart => exact ⟨0, S, P, O, c, a, ca, b, cb, s, Nat.zero_le _, rfl, HS1, HF0, HW⟩
  case round =>
    clear HS1 HF0 HW S P O c
    obtain ⟨k, S, P, O, c, a, ca, b, cb, s, hk, rfl, HS, HF, HW⟩ := hrel
    by_cases hlt : k < 300
    · have G := hide (decay_any wr B S P O c 5 s HS.out.hp HF.out)
      go_upto_region 10 with (first | (go_at_call 15; refine (unhide G).mono ?_; rintro e w2 ⟨rfl, t, hp2, kp2, hF2, hl2⟩))
      have P2 := hide (HS.out.prog hp2 kp2 (.inl rfl))
      have F2 := hide hF2
      have W2 : Hid (was = true → t.sc q ≤ t.sc p) := fun h => decayed_mono HF.out.sz hl2 p2 q2 (HW.out h)
      have G2 := hide (refDecay_doc w2 (by omega) P2.out.rf HF.out.sz hl2)
      unfold rv at G2
      clear hp2 kp2 hF2 hl2 G HS HF HW
      have c0 := P2.out.c0
      have c1 := P2.out.c1
      have c2 := P2.out.c2
      go_upto_region 11 with (first | (go_at_call 16; refine (unhide G2).mono ?_; rintro e w3 ⟨a', ca', b', cb', rfl, hr3, hb3, hq3⟩; have P3 := P2.out.below hb3; have x0 := P3.c0; have x1 := P3.c1; have x2 := P3.c2; have y0 := P3.fx 0; have y1 := P3.fx 1; have y2 := P3.fx 2; unfold rv))
      have P4 := hide (P2.out.ref hb3 hr3 hq3)
      clear x0 x1 x2 y0 y1 y2 P3 G2 hr3 hb3 hq3 c0 c1 c2
      refine forget (P := fun W => Code.wp Try.prog _ _ _ W) (fun W => Hid (Sd w W X B S P O c 5 a' ca' b' cb' t t)) P4 ?_
      intro W5 P5
      clear P4 P2
      have GSc : Hid (∀ u : Nat, 1 ≤ u → u ≤ 5 → Calls Try.prog 14 #[.pointer (some ⟨B, 0, none⟩), .int .i64 (u : Int)] W5 fun e w' => e = .returned (.int .i64 (t.sc u)) ∧ w' = W5) := fun u a b => score_yes W5 B S P O c 5 t u P5.out.hp a b
      have GT := hide (step_any W5 B S P O c 5 t P5.out.hp)
      have ht := F2.out.sz.st
      have hsp := F2.out.sz.sc p p2
      cases was with
      | true =>
        have hle := W2.out rfl
        go_wp2_with (first | (go_at_call 14; refine (unhide GSc _ (by omega) (by omega)).mono ?_; rintro e w0 ⟨rfl, hw0⟩; subst w0) | (go_at_call 17; refine (unhide GT).mono ?_; rintro e w0 ⟨rfl, hw0⟩; subst w0))
        go_roundw
        case rel => exact ⟨k + 1, S, P, O, c, a', ca', b', cb', t, by omega, by go_num, P5, F2, W2⟩
        case measure => simp [intOf]; omega
      | false =>
        go_wp2_with (first | (go_at_call 14; refine (unhide GSc _ (by omega) (by omega)).mono ?_; rintro e w0 ⟨rfl, hw0⟩; subst w0) | (go_at_call 17; refine (unhide GT).mono ?_; rintro e w0 ⟨rfl, hw0⟩; subst w0))
        go_roundw
        case rel => exact ⟨k + 1, S, P, O, c, a', ca', b', cb', t, by omega, by go_num, P5, F2, W2⟩
        case measure => simp [intOf]; omega
    · have G1 := hide (like_any wr B S P O c 5 a ca b cb s HS.out.hp HF.out HS.out.rf)
      unfold rv at G1
      have c0 := HS.out.c0
      have c1 := HS.out.c1
      have c2 := HS.out.c2
      go_wp2_with (first | (go_at_call 8; refine (unhide G1).mono ?_; rintro e w2 ⟨rfl, hb2⟩) | (go_at_call 9; refine (unhide G9 _).mono ?_; rintro e w3 ⟨rfl, hb3⟩))
      go_ret
      have h2 := HS.out.bel.trans (hb2.mono HS.out.bel.size)
      exact ⟨rfl, h2.trans (hb3.mono h2.size)⟩
end Go.Proofs.Ytidhnmooloedmaa
