/- The law of order, walked. -/
import Derived.Test.YtidhnmooloedmaaWalkZ
set_option linter.unusedVariables false
set_option linter.unusedSimpArgs false
namespace Go.Proofs.Ytidhnmooloedmaa
open Go.RowKit

/-- None that is in it is better than the last one that was popped. -/
def Lst (n : Nat) (s : HS) (last : Nat) : Prop := last = 0 ∨ (1 ≤ last ∧ last ≤ n ∧ ∀ i, i < s.k → ¬ bet s.sc (s.od i) last)
theorem lst_next {n : Nat} {s t : HS} (hF : Full n s) (hk : 0 < s.k) (ht : To n s (upd (inB s.pl) (s.od 0) false) t) : Lst n t (s.od 0) := by
  obtain ⟨o1, o2, _⟩ := hF.wf.at' 0 hk
  refine .inr ⟨o1, o2, fun i hi => ?_⟩
  obtain ⟨a, b, c⟩ := ht.full.wf.at' i hi
  have hin := inB_od ht.full.wf hi
  rw [ht.inn _ b] at hin
  have hne : t.od i ≠ s.od 0 := fun e => by rw [e, upd_same] at hin; cases hin
  rw [upd_other hne] at hin
  simp [inB] at hin
  rcases hF.wf.back _ a b with x | ⟨j, hj, _, hy⟩
  · exact absurd x hin.2
  · rw [ht.sc, ← hy]; exact root_best hF.hp j hj
theorem to_k {n : Nat} {s t : HS} (hF : Full n s) (hk : 0 < s.k) (ht : To n s (upd (inB s.pl) (s.od 0) false) t) : t.k = s.k - 1 := by
  obtain ⟨o1, o2, o3⟩ := hF.wf.at' 0 hk
  have h := cnt_out (p := s.pl) o1 o2 (by rw [o3]; omega)
  rw [ht.full.wf.cnt]
  have : cnt t.pl n = cnt (upd s.pl (s.od 0) (-1)) n := by
    rw [← lenF_cnt, ← lenF_cnt]
    refine lenF_congr n fun v hv => ?_
    rw [ht.inn v hv]
    by_cases e : v = s.od 0
    · subst e; rw [upd_same]; simp [inB, upd_same]
    · rw [upd_other e]; simp [inB, upd_other e]
  have h2 := hF.wf.cnt
  omega
theorem play_sd' {w w1 : World} {B S P O c a ca b cb n : Nat} {s : HS} (hp : Hp w1 B S P O c n s) (hr : Rf w1 a ca b cb n (inB s.pl) s.sc) (hb : Below w.heap.size w w1) (hl : w.heap.size ≤ B ∧ w.heap.size ≤ S ∧ w.heap.size ≤ P ∧ w.heap.size ≤ O) (bS : b ≠ S) (bP : b ≠ P) (bO : b ≠ O) :
    Sd w (w1.alloc (.cells (rv a ca b cb n s.st) 27)) w1.heap.size B S P O c n a ca b cb s s := by
  have hbx : Below w1.heap.size w1 (w1.alloc (.cells (rv a ca b cb n s.st) 27)) := (Below.refl _ _).alloc (Nat.le_refl _) _
  exact ⟨hp.below hbx, hr.below hbx, heap_alloc_new w1 _, bS, bP, bO, hb.size, hl.1, hl.2.1, hl.2.2.1, hl.2.2.2, hb.trans (hbx.mono hb.size)⟩

set_option maxHeartbeats 4000000 in
set_option maxRecDepth 100000 in
theorem orders_any (w : World) (x : Int) (hx0 : 0 ≤ x) (hx1 : x ≤ 255) (al : Option Addr) (cap : Nat) (l : List ActD) (hl : Acts w al l) (hll : l.length ≤ maxLen) :
    Calls Try.prog 4 #[.int .u8 x, .slice al l.length cap] w fun e w' => e = .returned (.bool true) ∧ Below w.heap.size w w' := by
  obtain ⟨n, hn⟩ : ∃ n : Nat, x % 20 = (n : Int) := ⟨(x % 20).toNat, by omega⟩
  have hn1 : n ≤ 1000 := by omega
  have GP := hide (play_any w n hn1 al cap l hl hll)
  have G9 : Hid (∀ W, Calls Try.prog 9 #[] W fun e w' => e = .returned (.bool true) ∧ Below W.heap.size W w') := fun W => awake_any W
  clear hl hll
  go_enter Try.func4, Try.ntmps4
  go_upto_region 2 with (first | (go_at_call 7; refine (unhide GP).mono ?_; rintro e w1 ⟨B, S, P, O, c, a, ca, b, cb, s, rfl, hp, hF, hr, hb, hlo, bS, bP, bO⟩; unfold rv))
  have HS0 := hide (play_sd' hp hr hb hlo bS bP bO)
  have HF0 := hide hF
  clear hp hF hr hb hlo bS bP bO GP hn
  refine forget (P := fun W => Code.wp Try.prog _ _ _ W) (fun W => Hid (Sd w W w1.heap.size B S P O c n a ca b cb s s)) HS0 ?_
  intro W1 HS1
  obtain ⟨X, hX⟩ : ∃ X, X = w1.heap.size := ⟨_, rfl⟩
  rw [← hX] at HS1 ⊢
  clear hX HS0
  have hlen := refLen_any W1 a ca b cb n _ _ s.st HS1.out.rf (by omega)
  rw [← HF0.out.k] at hlen
  unfold rv at hlen
  have GL := hide hlen
  have c0 := HS1.out.c0
  have c1 := HS1.out.c1
  have c2 := HS1.out.c2
  have hkn := HF0.out.wf.kn
  clear hlen
  go_wp2_with (first | (go_at_call 10; refine (unhide GL).mono ?_; rintro e w2 ⟨rfl, hb2⟩))
  have HS2 := hide (HS1.out.below hb2)
  clear hb2 HS1 GL c0 c1 c2
  refine forget (P := fun W => Code.wp Try.prog _ _ _ W) (fun W => Hid (Sd w W X B S P O c n a ca b cb s s)) HS2 ?_
  intro W2 HS1
  clear HS2
  generalize hsk : s.k = sk at *
  have HSK := hide hsk
  clear hsk
  go_loopw [8, 9] (fun la i W => ∃ (k last S P O c a ca b cb : Nat) (s : HS), i = .int .i64 (k : Int) ∧ la = .int .i64 (last : Int) ∧ k ≤ 1000 ∧ Hid (s.k = k) ∧ Hid (Sd w W X B S P O c n a ca b cb s s) ∧ Hid (Full n s) ∧ Hid (Lst n s last)) (fun _ i _ => (intOf i).toNat)
  case atStart => exact ⟨sk, 0, S, P, O, c, a, ca, b, cb, s, rfl, rfl, by omega, HSK, HS1, HF0, .inl rfl⟩
  case round =>
    clear HS1 HF0 HSK hkn S P O c
    obtain ⟨k, last, S, P, O, c, a, ca, b, cb, s, rfl, rfl, hk, HK, HS, HF, HL⟩ := hrel
    by_cases h0 : 0 < k
    · have hsk : 0 < s.k := by have := HK.out; omega
      have G := hide (pop_some wr B S P O c n s HS.out.hp HF.out hsk)
      obtain ⟨o1, o2, _⟩ := HF.out.wf.at' 0 hsk
      have hin := inB_od HF.out.wf hsk
      go_upto_region 9 with (first | (go_at_call 11; refine (unhide G).mono ?_; rintro e w2 ⟨rfl, t, hp2, kp2, ht2⟩))
      have P2 := hide (HS.out.prog hp2 kp2 (.inl rfl))
      have F2 := hide ht2.full
      have L2 := hide (lst_next HF.out hsk ht2)
      have K2 : Hid (t.k = k - 1) := by
        have e1 := to_k HF.out hsk ht2
        have e2 := HK.out
        show t.k = k - 1
        omega
      have HT : Hid (∀ W, Rf W a ca b cb n (inB s.pl) s.sc → Calls Try.prog 12 #[.agg (rv a ca b cb n s.st), .int .i64 (s.od 0 : Int), .bool false] W (RefTo W b n t)) := fun W hW => refSet_doc W (by omega) hW o2 ht2
      unfold rv at HT
      have c0 := P2.out.c0
      have c1 := P2.out.c1
      have c2 := P2.out.c2
      have ea := P2.out.rf.i.cell (i := s.od 0) (by omega)
      rw [hin] at ea
      have es := P2.out.rf.s.cell (i := s.od 0) (by omega)
      have hlast : last = 0 ∨ (1 ≤ last ∧ last ≤ n ∧ ¬ bet s.sc (s.od 0) last) := by
        rcases HL.out with h | ⟨h1, h2, h3⟩
        · exact .inl h
        · exact .inr ⟨h1, h2, h3 0 hsk⟩
      have hin' := hin
      clear hp2 kp2 ht2 G HS HF HL hin hin' hsk HK
      rcases hlast with rfl | ⟨l1, l2, l3⟩
      · generalize s.od 0 = y at *
        generalize s.sc y = sy at *
        have hd0 : decide (0 < ((0 : Nat) : Int)) = false := by simp
        go_upto_region 11 with fail
        go_quiet (fail)
        have P3 := hide (P2.out.drewN nq)
        have G4 := hide (unhide HT _ P3.out.rf)
        clear HT P2 ea
        go_wp2_with (first | (go_at_call 12; refine (unhide G4).mono ?_; rintro e w4 ⟨a', ca', b', cb', rfl, hr4, hb4, hq4⟩; have P4 := P3.out.below hb4; have x0 := P4.c0; have x1 := P4.c1; have x2 := P4.c2; have y0 := P4.fx 0; have y1 := P4.fx 1; have y2 := P4.fx 2; unfold rv))
        have P5 := hide (P3.out.ref hb4 hr4 hq4)
        go_roundw
        case rel => exact ⟨k - 1, y, S, P, O, c, a', ca', b', cb', t, by go_num, rfl, by omega, K2, P5, F2, L2⟩
        case measure => simp [intOf]; omega
      · have el := P2.out.rf.s.cell (i := last) (by omega)
        unfold bet at l3
        generalize s.od 0 = y at *
        generalize s.sc y = sy at *
        generalize s.sc last = sl at *
        have hd0 : decide (0 < last) = true := by simp; omega
        have l0 : 0 < last := by omega
        by_cases he : sl = sy
        · subst he
          have l4 : ¬ y < last := by omega
          have hd1 : decide (y < last) = false := by simp; omega
          have hd2 : (sl == sl) = true := by simp
          clear l3
          go_upto_region 11 with fail
          go_quiet (fail)
          have P3 := hide (P2.out.drewN nq)
          have G4 := hide (unhide HT _ P3.out.rf)
          clear HT P2 ea
          go_wp2_with (first | (go_at_call 12; refine (unhide G4).mono ?_; rintro e w4 ⟨a', ca', b', cb', rfl, hr4, hb4, hq4⟩; have P4 := P3.out.below hb4; have x0 := P4.c0; have x1 := P4.c1; have x2 := P4.c2; have y0 := P4.fx 0; have y1 := P4.fx 1; have y2 := P4.fx 2; unfold rv))
          have P5 := hide (P3.out.ref hb4 hr4 hq4)
          go_roundw
          case rel => exact ⟨k - 1, y, S, P, O, c, a', ca', b', cb', t, by go_num, rfl, by omega, K2, P5, F2, L2⟩
          case measure => simp [intOf]; omega
        · have l4 : sy < sl := by omega
          have hd2 : (sl == sy) = false := by simp; omega
          have hd1 : decide (sl < sy) = false := by simp; omega
          clear l3 he
          go_upto_region 11 with fail
          go_quiet (fail)
          have P3 := hide (P2.out.drewN nq)
          have G4 := hide (unhide HT _ P3.out.rf)
          clear HT P2 ea
          go_wp2_with (first | (go_at_call 12; refine (unhide G4).mono ?_; rintro e w4 ⟨a', ca', b', cb', rfl, hr4, hb4, hq4⟩; have P4 := P3.out.below hb4; have x0 := P4.c0; have x1 := P4.c1; have x2 := P4.c2; have y0 := P4.fx 0; have y1 := P4.fx 1; have y2 := P4.fx 2; unfold rv))
          have P5 := hide (P3.out.ref hb4 hr4 hq4)
          go_roundw
          case rel => exact ⟨k - 1, y, S, P, O, c, a', ca', b', cb', t, by go_num, rfl, by omega, K2, P5, F2, L2⟩
          case measure => simp [intOf]; omega
    · have hk0 : s.k = 0 := by have := HK.out; omega
      have hkz : k = 0 := by omega
      subst hkz
      have G := hide (pop_none wr B S P O c n s HS.out.hp hk0)
      have hlen2 := len_any wr B S P O c n s HS.out.hp
      rw [hk0] at hlen2
      have GL := hide hlen2
      have HB := hide HS.out.bel
      clear hlen2 hk0 HK HS HF HL
      go_wp2_with (first | (go_at_call 11; refine (unhide G).mono ?_; rintro e w0 ⟨rfl, hw0⟩; subst w0) | (go_at_call 13; refine (unhide GL).mono ?_; rintro e w0 ⟨rfl, hw0⟩; subst w0) | (go_at_call 9; refine (unhide G9 _).mono ?_; rintro e w3 ⟨rfl, hb3⟩))
      go_ret
      exact ⟨rfl, HB.out.trans (hb3.mono HB.out.size)⟩
end Go.Proofs.Ytidhnmooloedmaa
