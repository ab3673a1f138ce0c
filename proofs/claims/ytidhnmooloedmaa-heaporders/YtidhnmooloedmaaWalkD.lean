/- Contracts: what is told of a heap; it is scaled; one is bumped; the step grows. -/
import Derived.Test.YtidhnmooloedmaaWalkC
set_option linter.unusedVariables false
set_option linter.unusedSimpArgs false
namespace Go.Proofs.Ytidhnmooloedmaa
open Go.RowKit

section
variable (w : World) (B S P O c n : Nat) (s : HS)

set_option maxHeartbeats 400000 in
theorem len_any (hA : Hp w B S P O c n s) : Calls Try.prog 13 #[.pointer (some ⟨B, 0, none⟩)] w fun e w' => e = .returned (.int .i64 (s.k : Int)) ∧ w' = w := by
  have c3 := hA.c3
  have G := hide (given_any w B S P O c n s hA)
  clear hA
  go_enter Try.func13, Try.ntmps13
  go_wp2_with (first | (go_at_call 28; refine (unhide G).mono ?_; rintro e w0 ⟨rfl, hw0⟩; subst w0))
  all_goals
    go_ret
    exact ⟨ret_int rfl, rfl⟩

set_option maxHeartbeats 400000 in
theorem step_any (hA : Hp w B S P O c n s) : Calls Try.prog 17 #[.pointer (some ⟨B, 0, none⟩)] w fun e w' => e = .returned (.int .i64 s.st) ∧ w' = w := by
  have c4 := hA.c4
  have G := hide (given_any w B S P O c n s hA)
  clear hA
  go_enter Try.func17, Try.ntmps17
  go_wp2_with (first | (go_at_call 28; refine (unhide G).mono ?_; rintro e w0 ⟨rfl, hw0⟩; subst w0))
  all_goals
    go_ret
    exact ⟨ret_int rfl, rfl⟩

theorem varB_nat {n v : Nat} (h1 : 1 ≤ v) (h2 : v ≤ n) : varB n (v : Int) = true := by simp [varB]; omega
theorem varB_yes {n : Nat} {v : Int} (h : varB n v = true) : ∃ u : Nat, v = (u : Int) ∧ 1 ≤ u ∧ u ≤ n := by
  simp [varB] at h
  exact ⟨v.toNat, by omega, by omega, by omega⟩

set_option maxHeartbeats 400000 in
theorem score_no (v : Int) (hA : Hp w B S P O c n s) (h : varB n v = false) : Calls Try.prog 14 #[.pointer (some ⟨B, 0, none⟩), .int .i64 v] w fun e w' => e = .returned (.int .i64 0) ∧ w' = w := by
  have G := hide (isVar_any w B S P O c n s v hA)
  rw [h] at G
  clear hA h
  go_enter Try.func14, Try.ntmps14
  go_wp2_with (first | (go_at_call 29; refine (unhide G).mono ?_; rintro e w0 ⟨rfl, hw0⟩; subst w0))
  all_goals
    go_ret
    exact ⟨ret_int rfl, rfl⟩

set_option maxHeartbeats 400000 in
theorem score_yes (v : Nat) (hA : Hp w B S P O c n s) (h1 : 1 ≤ v) (h2 : v ≤ n) : Calls Try.prog 14 #[.pointer (some ⟨B, 0, none⟩), .int .i64 (v : Int)] w fun e w' => e = .returned (.int .i64 (s.sc v)) ∧ w' = w := by
  have G := hide (isVar_any w B S P O c n s v hA)
  rw [varB_nat h1 h2] at G
  have c1 := hA.c1
  have ec := hA.rs.cell (i := v) (by omega)
  have hn := hA.n20
  clear hA
  go_enter Try.func14, Try.ntmps14
  go_wp2_with (first | (go_at_call 29; refine (unhide G).mono ?_; rintro e w0 ⟨rfl, hw0⟩; subst w0))
  all_goals
    go_ret
    exact ⟨ret_int rfl, rfl⟩

set_option maxHeartbeats 400000 in
theorem has_no (v : Int) (hA : Hp w B S P O c n s) (h : varB n v = false) : Calls Try.prog 19 #[.pointer (some ⟨B, 0, none⟩), .int .i64 v] w fun e w' => e = .returned (.bool false) ∧ w' = w := by
  have G := hide (isVar_any w B S P O c n s v hA)
  rw [h] at G
  clear hA h
  go_enter Try.func19, Try.ntmps19
  go_wp2_with (first | (go_at_call 29; refine (unhide G).mono ?_; rintro e w0 ⟨rfl, hw0⟩; subst w0))
  all_goals
    go_ret
    exact ⟨ret_bool rfl, rfl⟩

set_option maxHeartbeats 400000 in
theorem has_yes (v : Nat) (hA : Hp w B S P O c n s) (h1 : 1 ≤ v) (h2 : v ≤ n) : Calls Try.prog 19 #[.pointer (some ⟨B, 0, none⟩), .int .i64 (v : Int)] w fun e w' => e = .returned (.bool (inB s.pl v)) ∧ w' = w := by
  have G := hide (isVar_any w B S P O c n s v hA)
  rw [varB_nat h1 h2] at G
  have c2 := hA.c2
  have ec := hA.rp.cell (i := v) (by omega)
  have hn := hA.n20
  clear hA
  have hr : inB s.pl v = decide (s.pl v ≠ -1) := by simp [inB]; omega
  rw [hr]; clear hr
  generalize s.pl v = x at *
  go_enter Try.func19, Try.ntmps19
  go_wp2_with (first | (go_at_call 29; refine (unhide G).mono ?_; rintro e w0 ⟨rfl, hw0⟩; subst w0))
  all_goals
    go_ret
    exact ⟨ret_bool (by rw [Bool.eq_iff_iff]; simp), rfl⟩

set_option maxHeartbeats 400000 in
theorem best_none (hA : Hp w B S P O c n s) (h : s.k = 0) : Calls Try.prog 20 #[.pointer (some ⟨B, 0, none⟩)] w fun e w' => e = .returned (.tuple #[.int .i64 0, .bool false]) ∧ w' = w := by
  have G := hide (len_any w B S P O c n s hA)
  rw [h] at G
  clear hA h
  go_enter Try.func20, Try.ntmps20
  go_wp2_with (first | (go_at_call 13; refine (unhide G).mono ?_; rintro e w0 ⟨rfl, hw0⟩; subst w0))
  all_goals
    go_ret2
    exact ⟨rfl, rfl⟩

set_option maxHeartbeats 400000 in
theorem best_some (hA : Hp w B S P O c n s) (h : 0 < s.k) : Calls Try.prog 20 #[.pointer (some ⟨B, 0, none⟩)] w fun e w' => e = .returned (.tuple #[.int .i64 (s.od 0 : Int), .bool true]) ∧ w' = w := by
  have G := hide (len_any w B S P O c n s hA)
  have c3 := hA.c3
  have ec := hA.ro.cell h
  clear hA
  go_enter Try.func20, Try.ntmps20
  go_wp2_with (first | (go_at_call 13; refine (unhide G).mono ?_; rintro e w0 ⟨rfl, hw0⟩; subst w0))
  all_goals
    go_ret2
    exact ⟨rfl, rfl⟩
end

theorem hps_of {s : HS} {p : Nat} (h : Hpf s (p + 1)) : HpS s p p :=
  ⟨fun j h0 hk hm hj => h j h0 hk (by omega), fun h0 hm => by have := par_lt h0; omega⟩

theorem max1 (x : Int) (W : World) : Sem.run Try.prog (Builtin.max_ #[3, 3] 3 #[.int .i64 x, .int .i64 1]) W = .ok (.int .i64 (max x 1)) W := by
  simp [Builtin.max_, Builtin.max2, go_sem]
  split <;> omega

/-- The scores as far as they are divided. -/
def HS.divTo (s : HS) (k : Nat) : HS := { s with sc := fun v => if v < k then s.sc v / 1048576 else s.sc v }
theorem divTo_next (s : HS) (k : Nat) : { s.divTo k with sc := upd (s.divTo k).sc k (s.sc k / 1048576) } = s.divTo (k + 1) := by
  have e : upd (s.divTo k).sc k (s.sc k / 1048576) = (s.divTo (k + 1)).sc := by
    funext v
    unfold upd HS.divTo
    by_cases e : v = k
    · subst e; simp
    · have : (v < k + 1) ↔ v < k := by omega
      simp [e, this]
  show HS.mk s.k _ s.pl s.od s.st = HS.mk s.k (s.divTo (k + 1)).sc s.pl s.od s.st
  rw [e]

def ScaleP (w : World) (B S P O c n : Nat) (s : HS) (e : Ending) (w' : World) : Prop :=
  e = .returned (.tuple #[]) ∧ ∃ t, Hp w' B S P O c n t ∧ Kp (Of B S P O) w w' ∧ WF n t ∧ Hpf t 0 ∧ Like n s.div t

theorem Hp.congrSc {w : World} {B S P O c n : Nat} {s t : HS} (h : Hp w B S P O c n s) (hk : t.k = s.k) (hp : t.pl = s.pl) (ho : t.od = s.od) (hs : t.st = s.st) (e : ∀ v, v ≤ n → t.sc v = s.sc v) : Hp w B S P O c n t :=
  ⟨h.BS, h.BP, h.BO, h.SP, h.SO, h.PO, h.n20, by rw [hk, hs]; exact h.head, h.rs.congr (fun i hi => e i (by omega)), by rw [hp]; exact h.rp, by rw [ho, hk]; exact h.ro⟩

set_option maxHeartbeats 1000000 in
theorem scale_any (w : World) (B S P O c n : Nat) (s : HS) (hA : Hp w B S P O c n s) (hw : WF n s) (hz : Sz2 n s) :
    Calls Try.prog 30 #[.pointer (some ⟨B, 0, none⟩)] w (ScaleP w B S P O c n s) := by
  have hn := hA.n20
  have hkn := hw.kn
  have c1 := hA.c1
  have HA := hide hA
  have HW := hide hw
  have HZ := hide hz
  have hst := hz.st
  clear hA hw hz
  go_enter Try.func30, Try.ntmps30
  go_wp2
  clear c1
  go_loopw [9] (fun x W => ∃ k : Nat, x = .int .i64 (k : Int) ∧ k ≤ n + 1 ∧ Hp W B S P O c n (s.divTo k) ∧ Kp (Of B S P O) w W) (fun x _ => n + 1 - (intOf x).toNat)
  case atStart => exact ⟨0, rfl, Nat.zero_le _, HA.out.congrSc rfl rfl rfl rfl (fun v _ => by simp [HS.divTo]), Kp.refl _ _⟩
  case round =>
    obtain ⟨k, rfl, hk, hp, kp⟩ := hrel
    by_cases hlt : k < n + 1
    · have c1 := hp.c1
      have ec : wr.cell? ⟨S, k, none⟩ = some (.int .i64 (s.sc k)) := by
        have := hp.rs.cell (i := k) hlt
        simpa [HS.divTo] using this
      have fc := hp.rs.fz k
      have hb := HZ.out.sc k (by omega)
      have HN : Hid (Hp (wr.setCell ⟨S, k, none⟩ (.int .i64 (s.sc k / 1048576))) B S P O c n (s.divTo (k + 1))) := by
        have := hp.setSc (i := k) (by omega) (s.sc k / 1048576)
        rw [divTo_next] at this; exact this
      have HK : Hid (Kp (Of B S P O) w (wr.setCell ⟨S, k, none⟩ (.int .i64 (s.sc k / 1048576)))) := kp.setCell (p := ⟨S, k, none⟩) (.inr (.inl rfl)) _
      clear hp kp
      generalize s.sc k = x at *
      go_wp2
      go_roundw
      case rel => exact ⟨k + 1, by go_num, by omega, HN.out, HK.out⟩
      case measure => simp [intOf]; omega
    · have hkl : n + 1 ≤ k := by omega
      have hd : Hp wr B S P O c n { s.div with st := s.st } := hp.congrSc rfl rfl rfl rfl (fun v hv => by
        show s.sc v / 1048576 = if v < k then s.sc v / 1048576 else s.sc v
        rw [if_pos (by omega)])
      have c4 : wr.cell? ⟨B, 4, none⟩ = some (.int .i64 s.st) := hd.c4
      have f4 := hd.fz 4
      have hd2 : Hp (wr.setCell ⟨B, 4, none⟩ (.int .i64 (max (s.st / 1048576) 1))) B S P O c n s.div := hd.setSt (max (s.st / 1048576) 1)
      have HD := hide hd2
      have HK : Hid (Kp (Of B S P O) w (wr.setCell ⟨B, 4, none⟩ (.int .i64 (max (s.st / 1048576) 1)))) := kp.setCell (p := ⟨B, 4, none⟩) (.inl rfl) _
      have c3 : (wr.setCell ⟨B, 4, none⟩ (.int .i64 (max (s.st / 1048576) 1))).cell? ⟨B, 3, none⟩ = some (.slice (some ⟨O, 0, none⟩) s.k c) := hd2.c3
      have hmax := max1 (s.st / 1048576)
      clear hp hd hd2 kp HA
      go_wp2
      clear c3 c4 f4 hmax
      go_loopw [3] (fun x W => ∃ (m : Nat) (t : HS), x = .int .i64 ((m : Int) - 1) ∧ Hp W B S P O c n t ∧ Kp (Of B S P O) w W ∧ WF n t ∧ Hpf t m ∧ Like n s.div t ∧ m ≤ s.k) (fun x _ => (intOf x + 1).toNat)
      case atStart =>
        refine ⟨s.k / 2, s.div, by go_num, HD.out, HK.out, div_wf HW.out, ?_, Like.refl _ _, by omega⟩
        exact Hpf_half (s := s.div)
      case round =>
        obtain ⟨m, t, hx, hp, kp, hw, hh, hl, hm⟩ := hrel
        cases m with
        | zero =>
          obtain rfl : u3 = .int .i64 (-1) := by rw [hx]; rfl
          clear hx HD HK
          go_wp2
          go_end0
          exact ⟨rfl, t, hp, kp, hw, hh, hl⟩
        | succ p =>
          have e : ((p + 1 : Nat) : Int) - 1 = (p : Int) := by omega
          rw [e] at hx
          subst hx
          have htk : t.k = s.k := hl.k
          have G := hide (sink_any wr B S P O c n t p hp hw (by omega) (hps_of hh))
          have HKp := hide kp
          have HL := hide hl
          clear e hp hw hh kp hl HD HK
          go_wp2_with (first | (go_at_call 27; refine (unhide G).mono ?_; rintro e w2 ⟨rfl, t2, hp2, kp2, wf2, hh2, hl2⟩))
          go_roundw
          case rel => exact ⟨p, t2, rfl, hp2, HKp.out.trans kp2, wf2, hh2, HL.out.trans hl2, by omega⟩
          case measure => simp [intOf]
end Go.Proofs.Ytidhnmooloedmaa
