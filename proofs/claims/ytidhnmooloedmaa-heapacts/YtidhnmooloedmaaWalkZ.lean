/- The law's play: its boxes, its beginning, its end. -/
import Derived.Test.YtidhnmooloedmaaWalkY
set_option linter.unusedVariables false
set_option linter.unusedSimpArgs false
namespace Go.Proofs.Ytidhnmooloedmaa
open Go.RowKit

/-- Both heaps, and a box for what is told. -/
structure Pl (w W : World) (X Y B S P O c n a ca b cb : Nat) (s t : HS) : Prop where
  sd : Sd w W X B S P O c n a ca b cb s t
  yd : W.heap[Y]? = some (.cells #[.slice none 0 0, .slice none 0 0, .int .i64 0] 27 (0, 0))
  lY : w.heap.size ≤ Y
  ne : X ≠ Y
section
variable {w W W' : World} {X Y B S P O c n a ca b cb : Nat} {s s' t t' : HS}
theorem Pl.prog (h : Pl w W X Y B S P O c n a ca b cb s t) {O' c' : Nat} (hp : Hp W' B S P O' c' n s') (k : Kp (Of B S P O) W W') (hO : O' = O ∨ W.heap.size ≤ O') : Pl w W' X Y B S P O' c' n a ca b cb s' t :=
  ⟨h.sd.prog hp k hO, (k.block Y (lt_of_block h.yd) (h.sd.hp.off h.yd (by decide) (by decide))).trans h.yd, h.lY, h.ne⟩
theorem Pl.below (h : Pl w W X Y B S P O c n a ca b cb s t) (hb : Below W.heap.size W W') : Pl w W' X Y B S P O c n a ca b cb s t :=
  ⟨h.sd.below hb, (hb.block _ (lt_of_block h.yd)).trans h.yd, h.lY, h.ne⟩
theorem Pl.drewN (h : Pl w W X Y B S P O c n a ca b cb s t) (m : Nat) : Pl w (W.drewN m) X Y B S P O c n a ca b cb s t := h.below (below_drewN (Below.refl _ _) m)
theorem Pl.ref (h : Pl w W X Y B S P O c n a ca b cb s t) (hb : Below W.heap.size W W') {a' ca' b' cb' : Nat} (hr : Rf W' a' ca' b' cb' n (inB t'.pl) t'.sc) (hq : b' = b ∨ W.heap.size ≤ b') :
    Pl w (((W'.setCell ⟨X, 0, none⟩ (.slice (some ⟨a', 0, none⟩) (n + 1) ca')).setCell ⟨X, 1, none⟩ (.slice (some ⟨b', 0, none⟩) (n + 1) cb')).setCell ⟨X, 2, none⟩ (.int .i64 t'.st)) X Y B S P O c n a' ca' b' cb' s t' :=
  ⟨h.sd.ref hb hr hq, (((hd_far (Ne.symm h.ne)).trans (hd_far (Ne.symm h.ne))).trans (hd_far (Ne.symm h.ne))).trans ((hb.block _ (lt_of_block h.yd)).trans h.yd), h.lY, h.ne⟩
theorem Pl.same (h : Pl w W X Y B S P O c n a ca b cb s t) (h1 : t'.st = t.st) (h2 : ∀ v, v ≤ n → t'.sc v = t.sc v) (h3 : ∀ v, v ≤ n → inB t'.pl v = inB t.pl v) : Pl w W X Y B S P O c n a ca b cb s t' := ⟨h.sd.same h1 h2 h3, h.yd, h.lY, h.ne⟩
theorem Pl.d0 (h : Pl w W X Y B S P O c n a ca b cb s t) : W.cell? ⟨Y, 0, none⟩ = some (.slice none 0 0) := by simp [World.cell?, h.yd]
theorem Pl.d1 (h : Pl w W X Y B S P O c n a ca b cb s t) : W.cell? ⟨Y, 1, none⟩ = some (.slice none 0 0) := by simp [World.cell?, h.yd]
theorem Pl.d2 (h : Pl w W X Y B S P O c n a ca b cb s t) : W.cell? ⟨Y, 2, none⟩ = some (.int .i64 0) := by simp [World.cell?, h.yd]
theorem Pl.fy (h : Pl w W X Y B S P O c n a ca b cb s t) (i : Nat) : W.frozen? ⟨Y, i, none⟩ = false := by simp [World.frozen?, h.yd]
end

/-- What play tells. -/
def PlayP (w : World) (n : Nat) (e : Ending) (w' : World) : Prop :=
  ∃ B S P O c a ca b cb s, e = .returned (.tuple #[.pointer (some ⟨B, 0, none⟩), .agg (rv a ca b cb n s.st), .bool true]) ∧ Hp w' B S P O c n s ∧ Full n s ∧ Rf w' a ca b cb n (inB s.pl) s.sc ∧ Below w.heap.size w w' ∧ (w.heap.size ≤ B ∧ w.heap.size ≤ S ∧ w.heap.size ≤ P ∧ w.heap.size ≤ O) ∧ b ≠ S ∧ b ≠ P ∧ b ≠ O

/-- At the beginning: the document's heap is in its box, the program's is made. -/
theorem play_begin {w W1 W2 : World} {B S P O n a b : Nat} (hb1 : Below (w.alloc (.cells #[.slice none 0 0, .slice none 0 0, .int .i64 0] 27)).heap.size (w.alloc (.cells #[.slice none 0 0, .slice none 0 0, .int .i64 0] 27)) W1)
    (hr : Rf W1 a (n + 1) b (n + 1) n (fun v => decide (v ≠ 0)) (fun _ => 0)) (hp : Hp W2 B S P O n n (HS.mk2 n n))
    (hb2 : Below (W1.alloc (.cells (rv a (n + 1) b (n + 1) n 64) 27)).heap.size (W1.alloc (.cells (rv a (n + 1) b (n + 1) n 64) 27)) W2)
    (hl : (W1.alloc (.cells (rv a (n + 1) b (n + 1) n 64) 27)).heap.size ≤ B ∧ (W1.alloc (.cells (rv a (n + 1) b (n + 1) n 64) 27)).heap.size ≤ S ∧ (W1.alloc (.cells (rv a (n + 1) b (n + 1) n 64) 27)).heap.size ≤ P ∧ (W1.alloc (.cells (rv a (n + 1) b (n + 1) n 64) 27)).heap.size ≤ O) :
    Pl w W2 W1.heap.size w.heap.size B S P O n n a (n + 1) b (n + 1) (HS.mk2 n n) (HS.mk2 n n) := by
  have hs1 := hb1.size
  simp at hs1 hl
  have hbx : Below W1.heap.size W1 W2 := ((Below.refl _ _).alloc (Nat.le_refl _) _).trans (hb2.mono (by simp))
  have hbw : Below w.heap.size w W1 := ((Below.refl _ _).alloc (Nat.le_refl _) _).trans (hb1.mono (by simp))
  have lb := hr.s.lt
  refine ⟨⟨hp, (hr.below hbx).congr (fun v hv => mk2_in hv) (fun v _ => rfl), ?_, by omega, by omega, by omega, by omega, by omega, by omega, by omega, by omega, hbw.trans (hbx.mono (by omega))⟩, ?_, Nat.le_refl _, by omega⟩
  · rw [hb2.block _ (by simp)]; exact heap_alloc_new W1 _
  · rw [hbx.block _ (by omega), hb1.block _ (by simp)]; exact heap_alloc_new w _

/-- What the document's call leaves: the heap of a state. -/
def RefTo (W : World) (b n : Nat) (t : HS) (e : Ending) (w' : World) : Prop :=
  ∃ a' ca' b' cb', e = .returned (.agg (rv a' ca' b' cb' n t.st)) ∧ Rf w' a' ca' b' cb' n (inB t.pl) t.sc ∧ Below W.heap.size W w' ∧ (b' = b ∨ W.heap.size ≤ b')
theorem refBump_doc (W : World) {a ca b cb n u : Nat} {s t : HS} (hn : n ≤ 1048576) (hR : Rf W a ca b cb n (inB s.pl) s.sc) (hz : Sz n s) (hu : u ≤ n) (hl : Like n (s.bumped u) t) : Calls Try.prog 24 #[.agg (rv a ca b cb n s.st), .int .i64 (u : Int)] W (RefTo W b n t) := by
  obtain ⟨d1, d2, d3⟩ := bump_doc hz hu hl
  refine (refBump_any W a ca b cb n _ _ s.st u hR hn hu hz.sc hz.st).mono ?_
  rintro e w' ⟨b', cb', rfl, hr, hb, hq⟩
  exact ⟨a, ca, b', cb', by rw [d1], hr.congr d3 d2, hb, .inr hq⟩
theorem refDecay_doc (W : World) {a ca b cb n : Nat} {s t : HS} (hn : n ≤ 1048576) (hR : Rf W a ca b cb n (inB s.pl) s.sc) (hz : Sz n s) (hl : Like n s.decayed t) : Calls Try.prog 16 #[.agg (rv a ca b cb n s.st)] W (RefTo W b n t) := by
  obtain ⟨d1, d2, d3⟩ := decay_doc hz hl
  refine (refDecay_any W a ca b cb n _ _ s.st hR hn hz.sc hz.st).mono ?_
  rintro e w' ⟨b', cb', rfl, hr, hb, hq⟩
  exact ⟨a, ca, b', cb', by rw [d1], hr.congr d3 d2, hb, hq⟩
theorem refSet_doc (W : World) {a ca b cb n u : Nat} {x : Bool} {s t : HS} (hn : n ≤ 1048576) (hR : Rf W a ca b cb n (inB s.pl) s.sc) (hu : u ≤ n) (ht : To n s (upd (inB s.pl) u x) t) : Calls Try.prog 12 #[.agg (rv a ca b cb n s.st), .int .i64 (u : Int), .bool x] W (RefTo W b n t) := by
  refine (refSet_any W a ca b cb n _ _ s.st u x hR hn hu).mono ?_
  rintro e w' ⟨a', ca', rfl, hr, hb, hq⟩
  exact ⟨a', ca', b, cb, by rw [ht.st], hr.congr ht.inn (fun v _ => by rw [ht.sc]), hb, .inl rfl⟩

theorem push_yes (w : World) (B S P O c n : Nat) (s : HS) (v : Nat) (hA : Hp w B S P O c n s) (hF : Full n s) (h1 : 1 ≤ v) (h2 : v ≤ n) :
    Calls Try.prog 21 #[.pointer (some ⟨B, 0, none⟩), .int .i64 (v : Int)] w (PushP w B S P O c n s v) := by
  by_cases h : s.pl v = -1
  · exact push_out w B S P O c n s v hA hF h1 h2 h
  · exact push_in w B S P O c n s v hA hF h1 h2 h

set_option maxHeartbeats 8000000 in
set_option maxRecDepth 100000 in
theorem play_any (w : World) (n : Nat) (hn : n ≤ 1000) (al : Option Addr) (cap : Nat) (l : List ActD) (hl : Acts w al l) (hll : l.length ≤ maxLen) :
    Calls Try.prog 7 #[.int .i64 (n : Int), .slice al l.length cap] w (PlayP w n) := by
  unfold maxLen at hll
  have HAC := hide hl
  clear hl
  have GR : Hid (∀ W : World, Calls Try.prog 23 #[.int .i64 (n : Int)] W fun e w' => ∃ a b, e = .returned (.agg (rv a (n + 1) b (n + 1) n 64)) ∧ Rf w' a (n + 1) b (n + 1) n (fun v => decide (v ≠ 0)) (fun _ => 0) ∧ Below W.heap.size W w' ∧ W.heap.size ≤ a ∧ W.heap.size ≤ b) := fun W => refNew_any W n (by omega)
  go_enter Try.func7, Try.ntmps7
  go_upto_region 2 with (first | (go_at_call 23; refine (unhide GR _).mono ?_; rintro e w1 ⟨a, b, rfl, hr1, hb1, la1, lb1⟩; unfold rv))
  have GN := hide (new_yes (w1.alloc (.cells (rv a (n + 1) b (n + 1) n 64) 27)) n (by omega))
  unfold rv at GN
  obtain ⟨X, hX⟩ : ∃ X, X = w1.heap.size := ⟨_, rfl⟩
  have HX := hide hX
  go_wp2_with (first | (go_at_call 18; refine (unhide GN).mono ?_; rintro e w2 ⟨B, S, P, O, rfl, hp2, hb2, hl2⟩))
  refine forget (P := fun W => Code.wp Try.prog _ _ _ W) (fun W => Hid (Pl w W w1.heap.size w.heap.size B S P O n n a (n + 1) b (n + 1) (HS.mk2 n n) (HS.mk2 n n))) (play_begin hb1 hr1 hp2 hb2 hl2) ?_
  intro W0 HP0
  rw [← hX] at HP0 ⊢
  obtain ⟨Y, hY⟩ : ∃ Y, Y = w.heap.size := ⟨_, rfl⟩
  rw [← hY] at HP0 ⊢
  clear hX hY HX hr1 hb1 la1 lb1 hp2 hb2 hl2 GR GN
  go_loopw [10] (fun x W => ∃ (k S P O c a ca b cb : Nat) (s : HS), k ≤ l.length ∧ k ≤ 60 ∧ x = .int .i64 (k : Int) ∧ Hid (Pl w W X Y B S P O c n a ca b cb s s) ∧ Hid (Full n s)) (fun x _ => 61 - (intOf x).toNat)
  case atStart => exact ⟨0, S, P, O, n, a, n + 1, b, n + 1, _, Nat.zero_le _, Nat.zero_le _, rfl, HP0, mk2_full n⟩
  case round =>
    clear HP0 S P O
    obtain ⟨k, S, P, O, c, a, ca, b, cb, s, hk1, hk2, rfl, HP, HF⟩ := hrel
    by_cases hlt : k < l.length ∧ k < 60
    · obtain ⟨hlt1, hlt2⟩ := hlt
      have hsz := HF.out.sz
      have hst := hsz.st
      have hn20 : n ≤ 1048576 := by omega
      obtain ⟨q, off, rfl, hq, a0, a1, a2⟩ := (HAC.out.below HP.out.sd.bel) k hlt1
      have b0 : Hid (∀ W, Below w.heap.size w W → W.cell? ⟨q, off + k * 3, none⟩ = some (.int .i64 l[k].d) ∧ W.cell? ⟨q, off + k * 3 + 1, none⟩ = some (.int .i64 l[k].v) ∧ W.cell? ⟨q, off + k * 3 + 2, none⟩ = some (.int .i64 l[k].n)) := by
        intro W hb
        obtain ⟨q', off', e, hq', b0, b1, b2⟩ := (HAC.out.below hb) k hlt1
        simp at e
        obtain ⟨rfl, rfl⟩ := e
        exact ⟨b0, b1, b2⟩
      generalize l[k] = act at *
      obtain ⟨d, v, N⟩ := act
      simp only at a0 a1 a2 b0
      have hvb : varB n v = (decide (1 ≤ v) && decide (v ≤ n)) := rfl
      by_cases hd0 : d = 0
      · subst hd0
        cases hv : varB n v with
        | false =>
          have G := hide (bump_no wr B S P O c n s v HP.out.sd.hp hv)
          have hv' : ¬ (1 ≤ v ∧ v ≤ n) := by rw [hv] at hvb; simp at hvb; omega
          clear hv hvb
          by_cases h1 : 1 ≤ v
          · have h2 : ¬ v ≤ n := fun h => hv' ⟨h1, h⟩
            clear hv'
            go_wp2_with (first | (go_at_call 22; refine (unhide G).mono ?_; rintro e w0 ⟨rfl, hw0⟩; subst w0))
            go_roundw
            case rel => exact ⟨k + 1, S, P, O, c, a, ca, b, cb, s, by omega, by omega, by go_num, HP, HF⟩
            case measure => simp [intOf]; omega
          · clear hv'
            go_wp2_with (first | (go_at_call 22; refine (unhide G).mono ?_; rintro e w0 ⟨rfl, hw0⟩; subst w0))
            go_roundw
            case rel => exact ⟨k + 1, S, P, O, c, a, ca, b, cb, s, by omega, by omega, by go_num, HP, HF⟩
            case measure => simp [intOf]; omega
        | true =>
          obtain ⟨u, rfl, u1, u2⟩ := varB_yes hv
          have G := hide (bump_yes wr B S P O c n s u HP.out.sd.hp HF.out u1 u2)
          clear hv hvb
          go_upto_region 15 with (first | (go_at_call 22; refine (unhide G).mono ?_; rintro e w2 ⟨rfl, t, hp2, kp2, hF2, hl2⟩))
          have P2 := hide (HP.out.prog hp2 kp2 (.inl rfl))
          have F2 := hide hF2
          have G2 : Hid (∀ m, Calls Try.prog 24 #[.agg (rv a ca b cb n s.st), .int .i64 (u : Int)] (w2.drewN m) (RefTo (w2.drewN m) b n t)) := fun m => refBump_doc (w2.drewN m) hn20 (P2.out.drewN m).sd.rf HF.out.sz u2 hl2
          unfold rv at G2
          obtain ⟨a0', a1', a2'⟩ := b0.out w2 P2.out.sd.bel
          clear hp2 kp2 hF2 hl2 G a0 a1 a2 HP HF hsz hst
          have c0 := P2.out.sd.c0
          have c1 := P2.out.sd.c1
          have c2 := P2.out.sd.c2
          go_region_with (first | (go_at_call 24; refine (unhide G2 _).mono ?_; rintro e w3 ⟨a', ca', b', cb', rfl, hr3, hb3, hq3⟩; have P3 := (P2.out.drewN 1).below hb3; have x0 := P3.sd.c0; have x1 := P3.sd.c1; have x2 := P3.sd.c2; have y0 := P3.sd.fx 0; have y1 := P3.sd.fx 1; have y2 := P3.sd.fx 2; unfold rv))
          all_goals
            have P4 := hide ((P2.out.drewN 1).ref hb3 hr3 hq3)
            clear x0 x1 x2 y0 y1 y2 P3
            go_wp2
            go_roundw
            case rel => exact ⟨k + 1, S, P, O, c, a', ca', b', cb', t, by omega, by omega, by go_num, P4, F2⟩
            case measure => simp [intOf]; omega
      by_cases hd1 : d = 1
      · subst hd1
        clear hd0 hvb
        by_cases hk0 : s.k = 0
        · have G := hide (pop_none wr B S P O c n s HP.out.sd.hp hk0)
          have hbest := refBest_any wr a ca b cb n _ _ s.st HP.out.sd.rf hn20
          rw [best_is HF.out.wf HF.out.hp, if_pos hk0] at hbest
          unfold rv at hbest
          have G2 := hide hbest
          clear hbest hk0
          have c0 := HP.out.sd.c0
          have c1 := HP.out.sd.c1
          have c2 := HP.out.sd.c2
          go_wp2_with (first | (go_at_call 11; refine (unhide G).mono ?_; rintro e w0 ⟨rfl, hw0⟩; subst w0) | (go_at_call 25; refine (unhide G2).mono ?_; rintro e w3 ⟨rfl, hb3⟩))
          all_goals
            have P4 := hide (HP.out.below hb3)
            go_roundw
            case rel => exact ⟨k + 1, S, P, O, c, a, ca, b, cb, s, by omega, by omega, by go_num, P4, HF⟩
            case measure => simp [intOf]; omega
        · have G := hide (pop_some wr B S P O c n s HP.out.sd.hp HF.out (by omega))
          obtain ⟨o1, o2, _⟩ := HF.out.wf.at' 0 (by omega)
          have G2 : Hid (∀ W, Rf W a ca b cb n (inB s.pl) s.sc → Calls Try.prog 25 #[.agg (rv a ca b cb n s.st)] W fun e w' => e = .returned (.int .i64 (s.od 0 : Int)) ∧ Below W.heap.size W w') := by
            intro W hW
            have hbest := refBest_any W a ca b cb n _ _ s.st hW hn20
            rw [best_is HF.out.wf HF.out.hp, if_neg hk0] at hbest
            exact hbest
          clear hk0
          go_upto_region 19 with (first | (go_at_call 11; refine (unhide G).mono ?_; rintro e w2 ⟨rfl, t, hp2, kp2, ht2⟩))
          all_goals
            have P2 := hide (HP.out.prog hp2 kp2 (.inl rfl))
            have F2 := hide ht2.full
            have G3 := hide (unhide G2 w2 P2.out.sd.rf)
            have HT : Hid (∀ W, Rf W a ca b cb n (inB s.pl) s.sc → Calls Try.prog 12 #[.agg (rv a ca b cb n s.st), .int .i64 (s.od 0 : Int), .bool false] W (RefTo W b n t)) := fun W hW => refSet_doc W hn20 hW o2 ht2
            unfold rv at G3 HT
            clear hp2 kp2 ht2 G G2 a0 a1 a2 HF hsz hst HP
            have c0 := P2.out.sd.c0
            have c1 := P2.out.sd.c1
            have c2 := P2.out.sd.c2
            generalize s.od 0 = y at *
            have hy0 : 0 < y := by omega
            have hyd : decide (0 < y) = true := by simpa using hy0
            go_upto_region 23 with (first | (go_at_call 25; refine (unhide G3).mono ?_; rintro e w3 ⟨rfl, hb3⟩))
            have P3 := hide (P2.out.below hb3)
            have G4 := hide (unhide HT w3 P3.out.sd.rf)
            clear hb3 P2 G3 HT c0 c1 c2
            have c0 := P3.out.sd.c0
            have c1 := P3.out.sd.c1
            have c2 := P3.out.sd.c2
            go_wp2_with (first | (go_at_call 12; refine (unhide G4).mono ?_; rintro e w4 ⟨a', ca', b', cb', rfl, hr4, hb4, hq4⟩; have P4 := P3.out.below hb4; have x0 := P4.sd.c0; have x1 := P4.sd.c1; have x2 := P4.sd.c2; have y0 := P4.sd.fx 0; have y1 := P4.sd.fx 1; have y2 := P4.sd.fx 2; unfold rv))
            have P5 := hide (P3.out.ref hb4 hr4 hq4)
            go_roundw
            case rel => exact ⟨k + 1, S, P, O, c, a', ca', b', cb', t, by omega, by omega, by go_num, P5, F2⟩
            case measure => simp [intOf]; omega
      by_cases hd2 : d = 2
      · subst hd2
        clear hd0 hd1
        cases hv : varB n v with
        | false =>
          have G := hide (push_no wr B S P O c n s v HP.out.sd.hp hv)
          have hv' : ¬ (1 ≤ v ∧ v ≤ n) := by rw [hv] at hvb; simp at hvb; omega
          clear hv hvb
          by_cases h1 : 1 ≤ v
          · have h2 : ¬ v ≤ n := fun h => hv' ⟨h1, h⟩
            clear hv'
            go_wp2_with (first | (go_at_call 21; refine (unhide G).mono ?_; rintro e w0 ⟨rfl, hw0⟩; subst w0))
            go_roundw
            case rel => exact ⟨k + 1, S, P, O, c, a, ca, b, cb, s, by omega, by omega, by go_num, HP, HF⟩
            case measure => simp [intOf]; omega
          · clear hv'
            go_wp2_with (first | (go_at_call 21; refine (unhide G).mono ?_; rintro e w0 ⟨rfl, hw0⟩; subst w0))
            go_roundw
            case rel => exact ⟨k + 1, S, P, O, c, a, ca, b, cb, s, by omega, by omega, by go_num, HP, HF⟩
            case measure => simp [intOf]; omega
        | true =>
          obtain ⟨u, rfl, u1, u2⟩ := varB_yes hv
          have G := hide (push_yes wr B S P O c n s u HP.out.sd.hp HF.out u1 u2)
          clear hv hvb
          go_upto_region 27 with (first | (go_at_call 21; refine (unhide G).mono ?_; rintro e w2 ⟨rfl, O', c', t, hp2, kp2, hO2, ht2⟩))
          have P2 := hide (HP.out.prog hp2 kp2 hO2)
          have F2 := hide ht2.full
          have G2 : Hid (∀ m, Calls Try.prog 12 #[.agg (rv a ca b cb n s.st), .int .i64 (u : Int), .bool true] (w2.drewN m) (RefTo (w2.drewN m) b n t)) := fun m => refSet_doc (w2.drewN m) hn20 (P2.out.drewN m).sd.rf u2 ht2
          unfold rv at G2
          obtain ⟨a0', a1', a2'⟩ := b0.out w2 P2.out.sd.bel
          clear hp2 kp2 hO2 ht2 G a0 a1 a2 HP HF hsz hst
          have c0 := P2.out.sd.c0
          have c1 := P2.out.sd.c1
          have c2 := P2.out.sd.c2
          go_region_with (first | (go_at_call 12; refine (unhide G2 _).mono ?_; rintro e w3 ⟨a', ca', b', cb', rfl, hr3, hb3, hq3⟩; have P3 := (P2.out.drewN 1).below hb3; have x0 := P3.sd.c0; have x1 := P3.sd.c1; have x2 := P3.sd.c2; have y0 := P3.sd.fx 0; have y1 := P3.sd.fx 1; have y2 := P3.sd.fx 2; unfold rv))
          all_goals
            have P4 := hide ((P2.out.drewN 1).ref hb3 hr3 hq3)
            clear x0 x1 x2 y0 y1 y2 P3
            go_wp2
            go_roundw
            case rel => exact ⟨k + 1, S, P, O', c', a', ca', b', cb', t, by omega, by omega, by go_num, P4, F2⟩
            case measure => simp [intOf]; omega
      by_cases hd3 : d = 3
      · subst hd3
        clear hd0 hd1 hd2 hvb
        go_wp2
        all_goals
          clear a0 a1 a2 hsz hst
          go_loopw [16] (fun x W => ∃ (j S P O c a ca b cb : Nat) (s : HS), j ≤ 400 ∧ x = .int .i64 (j : Int) ∧ Hid (Pl w W X Y B S P O c n a ca b cb s s) ∧ Hid (Full n s)) (fun x _ => 401 - (intOf x).toNat)
          case atStart => exact ⟨0, S, P, O, c, a, ca, b, cb, s, Nat.zero_le _, rfl, HP, HF⟩
          case round =>
            clear HP HF
            clear S P O c a ca b cb s
            obtain ⟨j, S, P, O, c, a, ca, b, cb, s, hj, rfl, HP, HF⟩ := hrel
            obtain ⟨a0, a1, a2⟩ := b0.out wr HP.out.sd.bel
            by_cases hjn : (j : Int) < N ∧ j < 400
            · obtain ⟨hj1, hj2⟩ := hjn
              have G := hide (decay_any wr B S P O c n s HP.out.sd.hp HF.out)
              go_upto_region 34 with (first | (go_at_call 15; refine (unhide G).mono ?_; rintro e w2 ⟨rfl, t, hp2, kp2, hF2, hl2⟩))
              have P2 := hide (HP.out.prog hp2 kp2 (.inl rfl))
              have F2 := hide hF2
              have G2 := hide (refDecay_doc w2 hn20 P2.out.sd.rf HF.out.sz hl2)
              unfold rv at G2
              clear hp2 kp2 hF2 hl2 G HP HF a0 a1 a2
              have c0 := P2.out.sd.c0
              have c1 := P2.out.sd.c1
              have c2 := P2.out.sd.c2
              go_wp2_with (first | (go_at_call 16; refine (unhide G2).mono ?_; rintro e w3 ⟨a', ca', b', cb', rfl, hr3, hb3, hq3⟩; have P3 := P2.out.below hb3; have x0 := P3.sd.c0; have x1 := P3.sd.c1; have x2 := P3.sd.c2; have y0 := P3.sd.fx 0; have y1 := P3.sd.fx 1; have y2 := P3.sd.fx 2; unfold rv))
              have P4 := hide (P2.out.ref hb3 hr3 hq3)
              go_roundw
              case rel => exact ⟨j + 1, S, P, O, c, a', ca', b', cb', t, by omega, by go_num, P4, F2⟩
              case measure => simp [intOf]; omega
            · by_cases hj1 : (j : Int) < N
              · have hj2 : ¬ j < 400 := fun h => hjn ⟨hj1, h⟩
                clear hjn
                go_wp2
                go_roundw
                case rel => exact ⟨k + 1, S, P, O, c, a, ca, b, cb, s, by omega, by omega, by go_num, HP, HF⟩
                case measure => simp [intOf]; omega
              · clear hjn
                go_wp2
                go_roundw
                case rel => exact ⟨k + 1, S, P, O, c, a, ca, b, cb, s, by omega, by omega, by go_num, HP, HF⟩
                case measure => simp [intOf]; omega
      · have g0 : (d == 0) = false := by simpa using hd0
        have g1 : (d == 1) = false := by simpa using hd1
        have g2 : (d == 2) = false := by simpa using hd2
        have g3 : (d == 3) = false := by simpa using hd3
        go_wp2
        all_goals
          go_roundw
          case rel => exact ⟨k + 1, S, P, O, c, a, ca, b, cb, s, by omega, by omega, by go_num, HP, HF⟩
          case measure => simp [intOf]; omega
    · have hd : ¬ (k < l.length ∧ k < 60) := hlt
      clear hlt
      have c0 := HP.out.sd.c0
      have c1 := HP.out.sd.c1
      have c2 := HP.out.sd.c2
      have d0 := HP.out.d0
      have d1 := HP.out.d1
      have d2 := HP.out.d2
      have e0 := HP.out.fy 0
      have e1 := HP.out.fy 1
      have e2 := HP.out.fy 2
      have hne := HP.out.ne
      have hne' := Ne.symm hne
      have hlY := HP.out.lY
      have fin : ∀ (u0 u1 u2 : Value) (m : Nat), Hp ((((wr.setCell ⟨Y, 0, none⟩ u0).setCell ⟨Y, 1, none⟩ u1).setCell ⟨Y, 2, none⟩ u2).drewN m) B S P O c n s ∧ Rf ((((wr.setCell ⟨Y, 0, none⟩ u0).setCell ⟨Y, 1, none⟩ u1).setCell ⟨Y, 2, none⟩ u2).drewN m) a ca b cb n (inB s.pl) s.sc ∧ Below w.heap.size w ((((wr.setCell ⟨Y, 0, none⟩ u0).setCell ⟨Y, 1, none⟩ u1).setCell ⟨Y, 2, none⟩ u2).drewN m) := by
        intro u0 u1 u2 m
        have e : ∀ q, q ≠ Y → ((((wr.setCell ⟨Y, 0, none⟩ u0).setCell ⟨Y, 1, none⟩ u1).setCell ⟨Y, 2, none⟩ u2).drewN m).heap[q]? = wr.heap[q]? := fun q hq => ((hd_far hq).trans (hd_far hq)).trans (hd_far hq)
        have nY := HP.out.sd.hp.off HP.out.yd (by decide) (by decide)
        unfold Of at nY
        obtain ⟨_, ea⟩ := HP.out.sd.rf.i.ty
        obtain ⟨_, eb⟩ := HP.out.sd.rf.s.ty
        refine ⟨HP.out.sd.hp.same (e B (by omega)) (e S (by omega)) (e P (by omega)) (e O (by omega)), ⟨HP.out.sd.rf.i.same (e a (ne_type ea HP.out.yd (by decide))), HP.out.sd.rf.s.same (e b (ne_type eb HP.out.yd (by decide)))⟩, below_drewN (((HP.out.sd.bel.setCell hlY _).setCell hlY _).setCell hlY _) m⟩
      have HFN := hide fin
      clear fin
      by_cases h1 : k < l.length
      · have h2 : ¬ k < 60 := fun h => hd ⟨h1, h⟩
        clear hd
        go_wp2
        go_region
        all_goals
          go_wp2
          obtain ⟨f1, f2, f3⟩ := HFN.out (.slice (some ⟨a, 0, none⟩) (n + 1) ca) (.slice (some ⟨b, 0, none⟩) (n + 1) cb) (.int .i64 s.st) 1
          exact bodyPost_ret (v := .tuple #[.pointer (some ⟨B, 0, none⟩), .agg #[.slice (some ⟨a, 0, none⟩) (n + 1) ca, .slice (some ⟨b, 0, none⟩) (n + 1) cb, .int .i64 s.st], .bool true]) (by simp [results, Try.results7, go_sem, c0, c1, c2, d0, d1, d2]) rfl ⟨B, S, P, O, c, a, ca, b, cb, s, rfl, f1, HF.out, f2, f3, ⟨HP.out.sd.lB, HP.out.sd.lS, HP.out.sd.lP, HP.out.sd.lO⟩, HP.out.sd.bS, HP.out.sd.bP, HP.out.sd.bO⟩
      · clear hd
        go_wp2
        go_region
        all_goals
          go_wp2
          obtain ⟨f1, f2, f3⟩ := HFN.out (.slice (some ⟨a, 0, none⟩) (n + 1) ca) (.slice (some ⟨b, 0, none⟩) (n + 1) cb) (.int .i64 s.st) 1
          exact bodyPost_ret (v := .tuple #[.pointer (some ⟨B, 0, none⟩), .agg #[.slice (some ⟨a, 0, none⟩) (n + 1) ca, .slice (some ⟨b, 0, none⟩) (n + 1) cb, .int .i64 s.st], .bool true]) (by simp [results, Try.results7, go_sem, c0, c1, c2, d0, d1, d2]) rfl ⟨B, S, P, O, c, a, ca, b, cb, s, rfl, f1, HF.out, f2, f3, ⟨HP.out.sd.lB, HP.out.sd.lS, HP.out.sd.lP, HP.out.sd.lO⟩, HP.out.sd.bS, HP.out.sd.bP, HP.out.sd.bO⟩
end Go.Proofs.Ytidhnmooloedmaa
