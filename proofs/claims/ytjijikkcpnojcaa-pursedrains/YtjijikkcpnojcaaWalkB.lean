/- Contracts: which counts there may be; tokens are put, and drawn. -/
import Derived.Test.YtjijikkcpnojcaaWalkA
import Derived.Deep.DeepCutAuto
import Derived.WalkSmall
set_option linter.unusedVariables false
set_option linter.unusedSimpArgs false
namespace Go.Proofs.Ytjijikkcpnojcaa
open Go.RowKit Go.Conc

/-- Whether there may be so many tokens. -/
def cntB (n : Int) : Bool := decide (0 ≤ n) && decide (n ≤ 4096)
theorem cntB_yes {n : Int} (h : cntB n = true) : ∃ m : Nat, n = (m : Int) ∧ m ≤ 4096 := by
  simp [cntB] at h
  exact ⟨n.toNat, by omega, by omega⟩
theorem cntB_of {m : Nat} (h : m ≤ 4096) : cntB (m : Int) = true := by simp [cntB]; omega

set_option maxHeartbeats 400000 in
theorem isCount_any (w : World) (n : Int) : Calls Try.prog 16 #[.int .i64 n] w fun e w' => e = .returned (.bool (cntB n)) ∧ w' = w := by
  go_enter Try.func16, Try.ntmps16
  go_wp2
  all_goals
    go_ret
    exact ⟨ret_bool (by simp [cntB, *]; try omega), rfl⟩

set_option maxHeartbeats 1000000 in
theorem put_any (w : World) (c cap n m : Nat) (hc : Ch w c cap n) (hm : m ≤ 4096) (hn : n ≤ cap) :
    Calls Try.prog 17 #[.chan (some c), .int .i64 (m : Int)] w fun e w' => e = .returned (.int .i64 ((min m (cap - n) : Nat) : Int)) ∧ Ch w' c cap (n + min m (cap - n)) ∧ Kp (fun b => b = c) w w' := by
  go_enter Try.func17, Try.ntmps17
  go_wp2
  go_loopw [7] (fun x W => ∃ k : Nat, x = .int .i64 (k : Int) ∧ k ≤ m ∧ k ≤ cap - n ∧ Ch W c cap (n + k) ∧ Kp (fun b => b = c) w W) (fun x _ => m - (intOf x).toNat)
  case atStart => exact ⟨0, rfl, Nat.zero_le _, Nat.zero_le _, hc, Kp.refl _ _⟩
  case round =>
    obtain ⟨k, rfl, hk1, hk2, hck, hkp⟩ := hrel
    by_cases hlt : k < m
    · have hlc := hck.lt
      obtain ⟨buf, s, r, hb, hs⟩ := hck
      by_cases hr : k < cap - n
      · go_upto_region 6 with fail
        refine wp_send_some hb rfl (by omega) ?_
        have hc2 : Ch (wr.setChan c cap (buf.push (.agg #[])) false (s + 1) r false) c cap (n + (k + 1)) := ch_set _ _ _ _ hlc (by simp [hs]; omega)
        have hk2 : Kp (fun b => b = c) w (wr.setChan c cap (buf.push (.agg #[])) false (s + 1) r false) := hkp.setChan rfl _ _ _ _ _ _
        refine forget (P := fun W => wpList Try.prog _ _ _ _ W) (fun W => Ch W c cap (n + (k + 1)) ∧ Kp (fun b => b = c) w W) ⟨hc2, hk2⟩ ?_
        clear hb hs hkp hc hc2 hk2
        rintro W ⟨hc2, hk2⟩
        simp only [Act.put]
        go_wp2
        go_roundw
        case rel => exact ⟨k + 1, by go_num, by omega, by omega, hc2, hk2⟩
        case measure => simp [intOf]; omega
      · have hkk : min m (cap - n) = k := by omega
        go_upto_region 6 with fail
        refine wp_send_none hb rfl (by omega) ?_
        have hc2 : Ch wr c cap (n + k) := ⟨_, _, _, hb, hs⟩
        simp only [Act.put]
        clear hb hs
        have HK := hide hkk
        clear hkk
        go_wp2
        go_ret
        exact ⟨ret_int (by rw [HK.out]), by rw [HK.out]; exact hc2, hkp⟩
    · have hkk : min m (cap - n) = k := by omega
      have hkm : k = m := by omega
      have HK := hide hkk
      have HM := hide hkm
      clear hkk hkm
      go_wp2
      go_ret
      exact ⟨ret_int (by rw [HK.out, HM.out]), by rw [HK.out]; exact hck, hkp⟩

set_option maxHeartbeats 1000000 in
theorem draw_any (w : World) (c cap n m : Nat) (hc : Ch w c cap n) (hm : m ≤ 4096) :
    Calls Try.prog 23 #[.chan (some c), .int .i64 (m : Int)] w fun e w' => e = .returned (.int .i64 ((min m n : Nat) : Int)) ∧ Ch w' c cap (n - min m n) ∧ Kp (fun b => b = c) w w' := by
  go_enter Try.func23, Try.ntmps23
  go_wp2
  go_loopw [7] (fun x W => ∃ k : Nat, x = .int .i64 (k : Int) ∧ k ≤ m ∧ k ≤ n ∧ Ch W c cap (n - k) ∧ Kp (fun b => b = c) w W) (fun x _ => m - (intOf x).toNat)
  case atStart => exact ⟨0, rfl, Nat.zero_le _, Nat.zero_le _, hc, Kp.refl _ _⟩
  case round =>
    obtain ⟨k, rfl, hk1, hk2, hck, hkp⟩ := hrel
    by_cases hlt : k < m
    · have hlc := hck.lt
      obtain ⟨buf, s, r, hb, hs⟩ := hck
      by_cases hr : k < n
      · go_upto_region 5 with fail
        refine wp_recv_some hb rfl (by omega) ?_
        have hc2 : Ch (wr.setChan c cap (buf.extract 1 buf.size) false s (r + 1) false) c cap (n - (k + 1)) := ch_set _ _ _ _ hlc (by simp [hs]; omega)
        have hk2 : Kp (fun b => b = c) w (wr.setChan c cap (buf.extract 1 buf.size) false s (r + 1) false) := hkp.setChan rfl _ _ _ _ _ _
        refine forget (P := fun W => wpList Try.prog _ _ _ _ W) (fun W => Ch W c cap (n - (k + 1)) ∧ Kp (fun b => b = c) w W) ⟨hc2, hk2⟩ ?_
        generalize buf.getD 0 undef = y
        clear hb hs hkp hc hc2 hk2
        rintro W ⟨hc2, hk2⟩
        simp only [Act.put]
        go_wp2
        go_roundw
        case rel => exact ⟨k + 1, by go_num, by omega, by omega, hc2, hk2⟩
        case measure => simp [intOf]; omega
      · have hkk : min m n = k := by omega
        have hb0 : buf = #[] := Array.eq_empty_of_size_eq_zero (by omega)
        subst hb0
        go_upto_region 5 with fail
        refine wp_recv_none hb rfl ?_
        have hc2 : Ch wr c cap (n - k) := ⟨_, _, _, hb, hs⟩
        simp only [Act.put]
        clear hb hs
        have HK := hide hkk
        clear hkk
        go_wp2
        go_ret
        exact ⟨ret_int (by rw [HK.out]), by rw [HK.out]; exact hc2, hkp⟩
    · have hkk : min m n = k := by omega
      have hkm : k = m := by omega
      have HK := hide hkk
      have HM := hide hkm
      clear hkk hkm
      go_wp2
      go_ret
      exact ⟨ret_int (by rw [HK.out, HM.out]), by rw [HK.out]; exact hck, hkp⟩
end Go.Proofs.Ytjijikkcpnojcaa
