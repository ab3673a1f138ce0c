/- Contract: a token of the next kind that has one is taken. -/
import Derived.Test.YtjijikkcpnojcaaWalkD
import Derived.WalkMore
set_option linter.unusedVariables false
set_option linter.unusedSimpArgs false
namespace Go.Proofs.Ytjijikkcpnojcaa
open Go.RowKit Go.Conc

/-- The next kind that has a token, from the i-th on, among f of them. -/
def scan (left : Nat → Nat) (N nx : Nat) : Nat → Nat → Option Nat
  | _, 0 => none
  | i, f + 1 => if 0 < left ((nx + i) % N) then some ((nx + i) % N) else scan left N nx (i + 1) f
def anyK (left : Nat → Nat) (N nx : Nat) : Option Nat := scan left N nx 0 N
theorem scan_some {left : Nat → Nat} {N nx : Nat} (hN : 0 < N) : ∀ f i k, scan left N nx i f = some k → k < N ∧ 0 < left k
  | 0, i, k, h => by simp [scan] at h
  | f + 1, i, k, h => by
    simp only [scan] at h
    split at h
    · rename_i hp
      injection h with h
      subst h
      exact ⟨Nat.mod_lt _ hN, hp⟩
    · exact scan_some hN f (i + 1) k h
theorem scan_step {left : Nat → Nat} {N nx i : Nat} (h : i < N) : scan left N nx i (N - i) = if 0 < left ((nx + i) % N) then some ((nx + i) % N) else scan left N nx (i + 1) (N - (i + 1)) := by
  have e : N - i = (N - (i + 1)) + 1 := by omega
  rw [e]; rfl

set_option maxHeartbeats 2000000 in
theorem any_any (w : World) (p K kc N : Nat) (ch room left : Nat → Nat) (nx : Nat) (hA : Pu w p K kc N ch room left nx) :
    Calls Try.prog 11 #[.pointer (some ⟨p, 0, none⟩)] w fun e w' =>
      (anyK left N nx = none ∧ e = .returned (.tuple #[.int .i64 0, .bool false]) ∧ ∃ q, w' = w.drewN q) ∨
      (∃ k, anyK left N nx = some k ∧ e = .returned (.tuple #[.int .i64 (k : Int), .bool true]) ∧ PuTo w w' p K kc N ch room (upd left k (left k - 1)) (k + 1)) := by
  have G := hide (given_any w p K kc N ch room left nx hA)
  have c1 := hA.c1
  have c3 := hA.c3
  have hn8 := hA.n8
  have hn1 := hA.n1
  have hnx := hA.nxl
  have HA := hide hA
  clear hA
  go_enter Try.func11, Try.ntmps11
  go_wp2
  go_step3
  go_wp2_with (first | (go_at_call 21; refine (unhide G).mono ?_; rintro e w0 ⟨rfl, hw0⟩; subst w0))
  go_step3
  go_wp2
  go_loopw [14] (fun x W => ∃ i q : Nat, i ≤ N ∧ x = .int .i64 (i : Int) ∧ W = w.drewN q ∧ Hid (scan left N nx i (N - i) = anyK left N nx)) (fun x _ => N - (intOf x).toNat)
  case atStart => exact ⟨0, 0, Nat.zero_le _, rfl, rfl, rfl⟩
  case round =>
    obtain ⟨i, q, hi, rfl, rfl, hsc⟩ := hrel
    by_cases hlt : i < N
    · obtain ⟨kd, hkd⟩ : ∃ kd, kd = (nx + i) % N := ⟨_, rfl⟩
      have hkN : kd < N := by rw [hkd]; exact Nat.mod_lt _ hn1
      have hmod : ((nx : Int) + (i : Int)) % (N : Int) = (kd : Int) := by rw [hkd]; simp
      have hst : Hid (anyK left N nx = if 0 < left kd then some kd else scan left N nx (i + 1) (N - (i + 1))) := by
        have := hsc.out
        rw [scan_step hlt, ← hkd] at this
        exact this.symm
      clear hkd hsc
      have ek := HA.out.kin.cell hkN
      have hch : Ch w (ch kd) (room kd) (left kd) := HA.out.chs kd hkN
      have hlc := hch.lt
      obtain ⟨buf, s, r, hb, hs⟩ := hch
      by_cases hp : 0 < left kd
      · rw [if_pos hp] at hst
        go_upto_region 6 with fail
        go_quiet (fail)
        go_upto_region 8 with fail
        refine wp_recv_some hb rfl (by omega) ?_
        have hc2 : Ch ((w.drewN (q + nq)).setChan (ch kd) (room kd) (buf.extract 1 buf.size) false s (r + 1) false) (ch kd) (room kd) (left kd - 1) := ch_set _ _ _ _ hlc (by simp [hs])
        have hk2 : Kp (fun b => b = ch kd) w ((w.drewN (q + nq)).setChan (ch kd) (room kd) (buf.extract 1 buf.size) false s (r + 1) false) := ((Kp.refl (fun b => b = ch kd) w).drewN (q + nq)).setChan rfl _ _ _ _ _ _
        have hp2 := HA.out.turn hkN hc2 (Nat.le_trans (Nat.sub_le _ _) (HA.out.le kd hkN)) hk2
        refine forget (P := fun W => wpList Try.prog _ _ _ _ W) (fun W => Pu W p K kc N ch room (upd left kd (left kd - 1)) nx ∧ Kp (fun b => b = ch kd) w W) ⟨hp2, hk2⟩ ?_
        generalize buf.getD 0 undef = y
        clear hb hs hc2 hk2 hp2 ek hlc c1 c3
        rintro W ⟨hp2, hk2⟩
        have d3 := hp2.c3
        have f3 := hp2.fz 3
        have HP := hide (hp2.setNext (kd + 1) (by omega))
        have HK := hide ((hk2.mono (T := Of p N ch) (fun b hb => .inr ⟨kd, hkN, hb⟩)).setCell (p := ⟨p, 3, none⟩) (.inl rfl) (.int .i64 ((kd + 1 : Nat) : Int)))
        have e1 : ((kd + 1 : Nat) : Int) = (kd : Int) + 1 := by omega
        rw [e1] at HP HK
        clear hp2 hk2 e1
        simp only [Act.put]
        go_wp2
        rw [Exit.noGoto_ret]
        go_ret2
        exact .inr ⟨kd, hst.out, rfl, HP.out, HK.out⟩
      · rw [if_neg hp] at hst
        have hb0 : buf = #[] := Array.eq_empty_of_size_eq_zero (by omega)
        subst hb0
        go_upto_region 6 with fail
        go_quiet (fail)
        go_upto_region 8 with fail
        refine wp_recv_none hb rfl ?_
        simp only [Act.put]
        clear hb hs
        go_wp2
        go_roundw
        case rel => exact ⟨i + 1, q + nq, by omega, by go_num, rfl, hst.out.symm⟩
        case measure => simp [intOf]; omega
    · have hn : Hid (anyK left N nx = none) := by
        have := hsc.out
        have e : N - i = 0 := by omega
        rw [e] at this
        exact this.symm
      clear hsc
      go_wp2
      rw [Exit.noGoto_ret]
      go_ret2
      exact .inl ⟨hn.out, rfl, q, rfl⟩
end Go.Proofs.Ytjijikkcpnojcaa
