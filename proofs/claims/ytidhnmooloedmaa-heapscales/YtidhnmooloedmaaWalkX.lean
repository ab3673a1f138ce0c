/- Contracts of the law: awake; like. -/
import Derived.Test.YtidhnmooloedmaaWalkW
set_option linter.unusedVariables false
set_option linter.unusedSimpArgs false
namespace Go.Proofs.Ytidhnmooloedmaa
open Go.RowKit

theorem bestF_congr {f g : Nat → Bool} {sc td : Nat → Int} : ∀ n, (∀ v, v ≤ n → f v = g v) → (∀ v, v ≤ n → sc v = td v) → bestF f sc n = bestF g td n
  | 0, _, _ => rfl
  | m + 1, hf, hs => by
    simp only [bestF]
    have ih := bestF_congr m (fun v h => hf v (by omega)) (fun v h => hs v (by omega))
    have hl := bestF_le g td m
    rw [ih, hf (m + 1) (Nat.le_refl _), hs (m + 1) (Nat.le_refl _), hs (bestF g td m) (by omega)]
theorem lenF_congr {f g : Nat → Bool} : ∀ n, (∀ v, v ≤ n → f v = g v) → lenF f n = lenF g n
  | 0, _ => rfl
  | m + 1, hf => by
    simp only [lenF]
    rw [lenF_congr m (fun v h => hf v (by omega)), hf (m + 1) (Nat.le_refl _)]
theorem Full.k {n : Nat} {s : HS} (h : Full n s) : s.k = lenF (inB s.pl) n := by rw [lenF_cnt]; exact h.wf.cnt

theorem aw1 {t : HS} (hl : Like 3 ((HS.mk2 3 3).bumped 2) t) (hF : Full 3 t) : 0 < t.k ∧ t.od 0 = 2 ∧ (∀ v, v ≤ 3 → inB t.pl v = decide (v ≠ 0)) ∧ ∀ v, v ≤ 3 → t.sc v = upd (fun _ => 0) 2 64 v := by
  obtain ⟨h1, h2, h3⟩ := bump_doc (mk2_full 3).sz (by decide : 2 ≤ 3) hl
  have hin : ∀ v, v ≤ 3 → inB t.pl v = decide (v ≠ 0) := fun v hv => (h3 v hv).trans (mk2_in hv)
  have hsc : ∀ v, v ≤ 3 → t.sc v = upd (fun _ => 0) 2 64 v := by
    intro v hv
    rw [h2 v hv]
    have : mustF (upd (HS.mk2 3 3).sc 2 ((HS.mk2 3 3).sc 2 + (HS.mk2 3 3).st)) (HS.mk2 3 3).st (3 + 1) = false := by decide
    rw [this]; rfl
  have hk : t.k = 3 := by rw [hF.k, lenF_congr 3 hin]; rfl
  have hb := best_is hF.wf hF.hp
  rw [bestF_congr 3 hin hsc, if_neg (by omega)] at hb
  exact ⟨by omega, by rw [← hb]; decide, hin, hsc⟩
theorem aw2 {t u : HS} (hin : ∀ v, v ≤ 3 → inB t.pl v = decide (v ≠ 0)) (hsc : ∀ v, v ≤ 3 → t.sc v = upd (fun _ => 0) 2 64 v) (hu : To 3 t (upd (inB t.pl) 2 false) u) : 0 < u.k ∧ u.od 0 = 1 ∧ (∀ v, v ≤ 3 → inB u.pl v = decide (v ≠ 0 ∧ v ≠ 2)) := by
  have hi2 : ∀ v, v ≤ 3 → inB u.pl v = decide (v ≠ 0 ∧ v ≠ 2) := by
    intro v hv
    rw [hu.inn v hv]
    by_cases e : v = 2
    · subst e; rw [upd_same]; simp
    · rw [upd_other e, hin v hv]; simp [e]
  have hk : u.k = 2 := by rw [hu.full.k, lenF_congr 3 hi2]; rfl
  have hb := best_is hu.full.wf hu.full.hp
  rw [bestF_congr 3 (td := upd (fun _ => 0) 2 64) hi2 (fun v hv => by rw [hu.sc]; exact hsc v hv), if_neg (by omega)] at hb
  exact ⟨by omega, by rw [← hb]; decide, hi2⟩
theorem aw3 {u v : HS} (hin : ∀ v, v ≤ 3 → inB u.pl v = decide (v ≠ 0 ∧ v ≠ 2)) (hv : To 3 u (upd (inB u.pl) 1 false) v) : v.k = 1 := by
  have hi2 : ∀ x, x ≤ 3 → inB v.pl x = decide (x = 3) := by
    intro x hx
    rw [hv.inn x hx]
    by_cases e : x = 1
    · subst e; rw [upd_same]; simp
    · rw [upd_other e, hin x hx, decide_eq_decide]; omega
  rw [hv.full.k, lenF_congr 3 hi2]; rfl

theorem bel_kp {w W W' : World} {B S P O : Nat} (h : Below w.heap.size w W) (k : Kp (Of B S P O) W W') (hl : w.heap.size ≤ B ∧ w.heap.size ≤ S ∧ w.heap.size ≤ P ∧ w.heap.size ≤ O) : Below w.heap.size w W' :=
  ⟨k.os.trans h.os, k.tape.trans h.tape, k.output.trans h.output, Nat.le_trans h.size k.size, fun i hi => (k.block i (Nat.lt_of_lt_of_le hi h.size) (by unfold Of; omega)).trans (h.block i hi)⟩

set_option maxHeartbeats 2000000 in
theorem awake_any (w : World) : Calls Try.prog 9 #[] w fun e w' => e = .returned (.bool true) ∧ Below w.heap.size w w' := by
  have GN := hide (new_yes w 3 (by decide))
  go_enter Try.func9, Try.ntmps9
  go_upto_region 2 with (first | (go_at_call 18; refine (unhide GN).mono ?_; rintro e w1 ⟨B, S, P, O, rfl, hp1, hb1, hl⟩))
  have G1 := hide (bump_yes w1 B S P O 3 3 _ 2 hp1 (mk2_full 3) (by decide) (by decide))
  have HB1 := hide hb1
  clear hp1 hb1 GN
  go_upto_region 4 with (first | (go_at_call 22; refine (unhide G1).mono ?_; rintro e w2 ⟨rfl, t, hp2, kp2, hF2, hl2⟩))
  obtain ⟨k2, o2, i2, s2⟩ := aw1 hl2 hF2
  have HB2 := hide (bel_kp HB1.out kp2 hl)
  have G2 := hide (pop_some w2 B S P O 3 3 t hp2 hF2 k2)
  clear hp2 kp2 hF2 hl2 G1 HB1
  have I2 := hide i2
  have S2 := hide s2
  have O2 := hide o2
  clear i2 s2 o2 k2
  go_upto_region 5 with (first | (go_at_call 11; refine (unhide G2).mono ?_; rintro e w3 ⟨rfl, u, hp3, kp3, hu⟩))
  rw [O2.out] at hu
  obtain ⟨k3, o3, i3⟩ := aw2 I2.out S2.out hu
  have HB3 := hide (bel_kp HB2.out kp3 hl)
  have G3 := hide (pop_some w3 B S P O 3 3 u hp3 hu.full k3)
  have I3 := hide i3
  have O3 := hide o3
  clear hp3 kp3 hu G2 HB2 I2 S2 i3 o3 k3
  go_upto_region 6 with (first | (go_at_call 11; refine (unhide G3).mono ?_; rintro e w4 ⟨rfl, v, hp4, kp4, hv⟩))
  rw [O3.out] at hv
  have hk4 := aw3 I3.out hv
  have HB4 := hide (bel_kp HB3.out kp4 hl)
  have hlen := len_any w4 B S P O 3 3 v hp4
  rw [hk4] at hlen
  have G4 := hide hlen
  clear hp4 kp4 hv hlen hk4 G3 HB3
  rw [O2.out, O3.out]
  go_wp2_with (first | (go_at_call 13; refine (unhide G4).mono ?_; rintro e w0 ⟨rfl, hw0⟩; subst w0))
  go_ret
  exact ⟨rfl, HB4.out⟩
end Go.Proofs.Ytidhnmooloedmaa
