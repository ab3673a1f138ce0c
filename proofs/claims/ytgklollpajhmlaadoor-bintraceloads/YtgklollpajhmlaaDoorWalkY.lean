/- Contracts of the program: a literal's and a clause's bytes are decoded. -/
import Derived.Test.YtgklollpajhmlaaDoorWalkT
import Derived.Test.YtgklollpajhmlaaDoorPlainC
set_option linter.unusedVariables false
set_option linter.unusedSimpArgs false
namespace Go.Proofs.YtgklollpajhmlaaDoor
open Go.RowKit Go.Maps

attribute [local go_sem ↓] Go.wp_at_zero Go.wp_at_succ

theorem size_max : sizeN (-1048576) = 4 := by decide

theorem shl_val {V W c k : Nat} (hk : k < 4) (hc : c < 256) (h : W = V + c % 128 * 128 ^ k) (hV : V < 128 ^ k) : wrap64 ((V : Int) + wrap64 ((c : Int) % 128 * 2 ^ (7 * k))) = (W : Int) ∧ W ≤ 268435456 := by
  have hcases : k = 0 ∨ k = 1 ∨ k = 2 ∨ k = 3 := by omega
  rcases hcases with rfl | rfl | rfl | rfl
  all_goals
    simp only [Nat.reducePow, Nat.reduceMul, Int.reducePow] at h hV ⊢
    unfold wrap64
    omega

set_option maxRecDepth 100000 in
set_option maxHeartbeats 4000000 in
theorem decodeLiteral_any (w : World) (b off cap : Nat) (t : List UInt8) (ht : Txt w.heap.size w (some ⟨b, off, none⟩) t) (hm : t.length ≤ 4194304) :
    Calls Tryd.prog 34 #[.slice (some ⟨b, off, none⟩) t.length cap] w fun e w' => e = .returned (.tuple #[.int .i64 (tk t).1, .int .i64 ((tk t).2 : Int)]) ∧ Below w.heap.size w w' := by
  have CZ := size_any (-1048576) w
  rw [size_max] at CZ
  replace CZ := hide CZ
  have HT := hide ht
  have HA : Hid (∃ M : Nat, (M : Int) = min (t.length : Int) 4 ∧ M ≤ t.length ∧ M ≤ 4 ∧ (M = t.length ∨ M = 4)) := ⟨min t.length 4, by omega, by omega, by omega, by omega⟩
  obtain ⟨M, hM, hM1, hM2, hM3⟩ := HA.out
  clear ht HA
  go_enter Tryd.func34, Tryd.ntmps34
  go_wp2_with (go_at_call 40; refine (unhide CZ).mono ?_; rintro e w1 ⟨rfl, hb1⟩)
  have HBW := hide hb1
  clear hb1
  generalize hmm : min (t.length : Int) 4 = mm at *
  subst hM
  clear hmm
  go_loopw [4, 10] (fun zn zi wr => ∃ k : Nat, k ≤ M ∧ zi = .int .i64 (k : Int) ∧ zn = .int .i64 (valB (t.take k) : Int) ∧ Lt 4 t k ∧ Below w.heap.size w wr) (fun _ zi _ => M - (intOf zi).toNat)
  case atStart => exact ⟨0, Nat.zero_le _, rfl, rfl, lt_start 4 t, HBW.out⟩
  case round =>
    clear HBW
    obtain ⟨k, hk, rfl, rfl, hL, hB⟩ := hrel
    by_cases hlt : k < M
    · have hkt : k < t.length := by omega
      have hk4 : k < 4 := by omega
      have hv := hL.val hkt
      have hT := HT.out.below hB
      obtain ⟨b', off', e, hb, hcell⟩ := hT k hkt
      simp at e
      obtain ⟨rfl, rfl⟩ := e
      have hbw : b < wr.heap.size := by have := hB.size; omega
      have hcl : t[k].toNat < 256 := t[k].toNat_lt
      have hki : (k : Int) < M := by omega
      have HANS : Hid (t[k].toNat < 128 → tk t = _) := hL.last hkt hk4
      have HNXT := hide (hL.next hkt hk4)
      have hkl : (k : Int) < t.length := by omega
      obtain ⟨hw, hW⟩ := shl_val hk4 hcl hv.1 hv.2
      have hBz := hB.size
      clear hT hL hv
      generalize hWV : valB (t.take (k + 1)) = W at *
      have HWV := hide hWV
      clear hWV
      generalize t[k].toNat = c at *
      by_cases hc : 128 ≤ c
      · have hci : 128 ≤ (c : Int) := by omega
        have HB := hide hB
        clear hB HANS
        go_wp2
        go_roundw
        case rel => exact ⟨k + 1, by omega, by go_num, by rw [HWV.out, hw], HNXT.out (by omega), HB.out⟩
        case measure => simp [intOf]; omega
      · have hci : (c : Int) < 128 := by omega
        have hans := HANS.out (by omega)
        have CL := literalOf_any W wr (by omega)
        rw [← hw] at CL
        replace CL := hide CL
        clear hw
        generalize litOf W = l at *
        have CS := size_any l wr
        have CS2 : Hid (Calls Tryd.prog 40 #[.int .i64 l] wr fun e w' => e = .returned (.int .i64 (sizeN l : Int)) ∧ Below w.heap.size w w') := CS.mono fun e w' ⟨h1, h2⟩ => ⟨h1, hB.trans (h2.mono hBz)⟩
        clear CS HANS HNXT hB
        generalize sizeN l = z at *
        by_cases hz : z = k + 1
        · rw [if_pos hz] at hans
          have HA := hide hans
          have hzi : ((z : Int) != k + 1) = false := by simp; omega
          clear hans hz
          go_wp2_with (first
            | (go_at_call 41; refine (unhide CL).mono ?_; rintro e w0 ⟨rfl, hw0⟩; subst w0)
            | (go_at_call 40; refine (unhide CS2).mono ?_; rintro e w3 ⟨rfl, hb3⟩))
          go_ret2
          exact ⟨by rw [HA.out]; rfl, hb3⟩
        · rw [if_neg hz] at hans
          have HA := hide hans
          have hzi : ((z : Int) != k + 1) = true := by simp; omega
          clear hans hz
          go_wp2_with (first
            | (go_at_call 41; refine (unhide CL).mono ?_; rintro e w0 ⟨rfl, hw0⟩; subst w0)
            | (go_at_call 40; refine (unhide CS2).mono ?_; rintro e w3 ⟨rfl, hb3⟩))
          go_ret2
          exact ⟨by rw [HA.out]; rfl, hb3⟩
    · have hans : tk t = (0, 0) := hL.none (by omega)
      have hki : ¬ (k : Int) < M := by omega
      have HA := hide hans
      have HB := hide hB
      clear hans hL hB
      go_wp2
      go_ret2
      exact ⟨by rw [HA.out]; rfl, HB.out⟩

end Go.Proofs.YtgklollpajhmlaaDoor
