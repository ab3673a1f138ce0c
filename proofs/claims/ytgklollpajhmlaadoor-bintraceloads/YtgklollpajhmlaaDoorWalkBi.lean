/- Contracts: which a file is, and what is loaded of it, the program's and the document's. -/
import Derived.Test.YtgklollpajhmlaaDoorWalkZ2
set_option linter.unusedVariables false
set_option linter.unusedSimpArgs false
namespace Go.Proofs.YtgklollpajhmlaaDoor
open Go.RowKit Go.Maps

attribute [local go_sem ↓] Go.wp_at_zero Go.wp_at_succ

theorem ofT_int (c : UInt8) : ofT c = true ↔ ((c.toNat : Int) = 32 ∨ (c.toNat : Int) = 9 ∨ (c.toNat : Int) = 10 ∨ (c.toNat : Int) = 13 ∨ (c.toNat : Int) = 45 ∨ (c.toNat : Int) = 100 ∨ (48 ≤ (c.toNat : Int) ∧ (c.toNat : Int) ≤ 57)) := by
  have h32 : ((c.toNat : Int) = 32) = (c = 32) := u8_is c 32 (by omega)
  have h9 : ((c.toNat : Int) = 9) = (c = 9) := u8_is c 9 (by omega)
  have h10 : ((c.toNat : Int) = 10) = (c = 10) := u8_is c 10 (by omega)
  have h13 : ((c.toNat : Int) = 13) = (c = 13) := u8_is c 13 (by omega)
  have h45 : ((c.toNat : Int) = 45) = (c = 45) := u8_is c 45 (by omega)
  have h100 : ((c.toNat : Int) = 100) = (c = 100) := u8_is c 100 (by omega)
  have e1 : (48 ≤ c.toNat) = (48 ≤ (c.toNat : Int)) := by apply propext; omega
  have e2 : (c.toNat ≤ 57) = ((c.toNat : Int) ≤ 57) := by apply propext; omega
  unfold ofT
  simp only [Bool.or_eq_true, Bool.and_eq_true, beq_iff_eq, decide_eq_true_eq]
  rw [h32, h9, h10, h13, h45, h100, e1, e2]
  simp only [or_assoc]

theorem ofT_yes {c : UInt8} {n : Int} (hn : (c.toNat : Int) = n) (h : n = 32 ∨ n = 9 ∨ n = 10 ∨ n = 13 ∨ n = 45 ∨ n = 100 ∨ (48 ≤ n ∧ n ≤ 57)) : true = ofT c := by
  subst hn; exact ((ofT_int c).2 h).symm

theorem ofT_no {c : UInt8} {n : Int} (hn : (c.toNat : Int) = n) (h : ¬ (n = 32 ∨ n = 9 ∨ n = 10 ∨ n = 13 ∨ n = 45 ∨ n = 100 ∨ (48 ≤ n ∧ n ≤ 57))) : false = ofT c := by
  subst hn
  cases e : ofT c with
  | false => rfl
  | true => exact absurd ((ofT_int c).1 e) h

set_option maxHeartbeats 1000000 in
theorem isOfText_any (c : UInt8) (w : World) :
    Calls Tryd.prog 17 #[.int .u8 (c.toNat : Int)] w fun e w' => e = .returned (.bool (ofT c)) ∧ w' = w := by
  generalize hn : (c.toNat : Int) = n
  have HN := hide hn
  have h0 : 0 ≤ n := by omega
  have h1 : n < 256 := by have := c.toNat_lt; omega
  clear hn
  by_cases h32 : n = 32
  · subst h32
    go_enter Tryd.func17, Tryd.ntmps17
    go_wp2
    go_ret
    exact ⟨ret_bool (ofT_yes HN.out (by omega)), rfl⟩
  by_cases h9 : n = 9
  · subst h9
    go_enter Tryd.func17, Tryd.ntmps17
    go_wp2
    go_ret
    exact ⟨ret_bool (ofT_yes HN.out (by omega)), rfl⟩
  by_cases h10 : n = 10
  · subst h10
    go_enter Tryd.func17, Tryd.ntmps17
    go_wp2
    go_ret
    exact ⟨ret_bool (ofT_yes HN.out (by omega)), rfl⟩
  by_cases h13 : n = 13
  · subst h13
    go_enter Tryd.func17, Tryd.ntmps17
    go_wp2
    go_ret
    exact ⟨ret_bool (ofT_yes HN.out (by omega)), rfl⟩
  by_cases h45 : n = 45
  · subst h45
    go_enter Tryd.func17, Tryd.ntmps17
    go_wp2
    go_ret
    exact ⟨ret_bool (ofT_yes HN.out (by omega)), rfl⟩
  by_cases h100 : n = 100
  · subst h100
    go_enter Tryd.func17, Tryd.ntmps17
    go_wp2
    go_ret
    exact ⟨ret_bool (ofT_yes HN.out (by omega)), rfl⟩
  have f32 := beq_no h32
  have f9 := beq_no h9
  have f10 := beq_no h10
  have f13 := beq_no h13
  have f45 := beq_no h45
  have f100 := beq_no h100
  by_cases ha : 48 ≤ n
  · by_cases hb : n ≤ 57
    · go_enter Tryd.func17, Tryd.ntmps17
      go_wp2
      go_ret
      exact ⟨ret_bool (by simpa [ha, hb] using ofT_yes HN.out (by omega)), rfl⟩
    · go_enter Tryd.func17, Tryd.ntmps17
      go_wp2
      go_ret
      exact ⟨ret_bool (by first | exact ofT_no HN.out (by omega) | (rw [decide_eq_false (by omega)]; exact ofT_no HN.out (by omega))), rfl⟩
  · go_enter Tryd.func17, Tryd.ntmps17
    go_wp2
    go_ret
    exact ⟨ret_bool (by exact ofT_no HN.out (by omega)), rfl⟩

theorem binB_yes {t : List UInt8} {k : Nat} (h : k < t.length) (hk : k < 10) (hc : ofT t[k] = false) : true = binB t := by
  unfold binB
  symm
  rw [List.any_eq_true]
  refine ⟨t[k], ?_, by rw [hc]; rfl⟩
  rw [List.mem_take_iff_getElem]
  exact ⟨k, by omega, rfl⟩

theorem binB_no {t : List UInt8} {k : Nat} (h : (t.take k).all ofT = true) (hk : t.length ≤ k ∨ 10 ≤ k) : false = binB t := by
  unfold binB
  symm
  rw [List.any_eq_false]
  intro c hc
  have hm : c ∈ t.take k := by
    rw [List.mem_take_iff_getElem] at hc ⊢
    obtain ⟨i, hi, e⟩ := hc
    exact ⟨i, by omega, e⟩
  rw [List.all_eq_true] at h
  rw [h c hm]
  simp

theorem ofT_snoc {t : List UInt8} {k : Nat} (h : k < t.length) (hk : (t.take k).all ofT = true) (hc : ofT t[k] = true) : (t.take (k + 1)).all ofT = true := by
  rw [List.take_succ_eq_append_getElem h, List.all_append, hk]
  simp [hc]

set_option maxHeartbeats 1000000 in
theorem binary_any (a : Option Addr) (cap : Nat) (t : List UInt8) (w : World) (ht : Txt w.heap.size w a t) (hm : t.length ≤ 4194304) (hc : t.length ≤ cap) :
    Calls Tryd.prog 8 #[.slice a t.length cap] w fun e w' => e = .returned (.bool (binB t)) ∧ w' = w := by
  obtain ⟨M, hM, hM1, hM2, hM3⟩ : ∃ M : Nat, (M : Int) = min (t.length : Int) 10 ∧ M ≤ t.length ∧ M ≤ 10 ∧ (M = t.length ∨ M = 10) := ⟨min t.length 10, by omega, by omega, by omega, by omega⟩
  have HT := hide ht
  clear ht
  have hmin : min (t.length : Int) 10 = (M : Int) := hM.symm
  clear hM
  have hMc : (M : Int) ≤ cap := by omega
  cases a with
  | none =>
    go_enter Tryd.func8, Tryd.ntmps8
    go_wp2
    clear hmin
    have h0 : M = 0 := by
      by_cases hp : 0 < t.length
      · obtain ⟨b, off, e, _⟩ := HT.out 0 hp
        simp at e
      · omega
    subst h0
    go_loop [11] (fun i => i = .int .i64 0) (fun _ => 0)
    case atStart => rfl
    case round =>
      subst hrel
      go_wp2
      go_ret
      exact ⟨ret_bool (binB_no (k := 0) rfl (by omega)), rfl⟩
  | some x =>
    go_enter Tryd.func8, Tryd.ntmps8
    go_wp2
    clear hmin
    go_loop [11] (fun i => ∃ k : Nat, k ≤ M ∧ i = .int .i64 (k : Int) ∧ Hid ((t.take k).all ofT = true)) (fun i => M - (intOf i).toNat)
    case atStart => exact ⟨0, Nat.zero_le _, rfl, rfl⟩
    case round =>
      obtain ⟨k, hk, rfl, HK⟩ := hrel
      by_cases hlt : k < M
      · have hkt : k < t.length := by omega
        have hki : (k : Int) < M := by omega
        obtain ⟨b, off, e, hb, hcell⟩ := HT.out k hkt
        simp at e
        subst e
        have CB := isOfText_any t[k] w
        cases ho : ofT t[k]
        · rw [ho] at CB
          replace CB := hide CB
          have HY := hide (binB_yes hkt (by omega) ho)
          clear ho
          go_wp2_with (go_at_call 17; refine (unhide CB).mono ?_; rintro e w0 ⟨rfl, hw0⟩; subst w0)
          go_ret
          exact ⟨ret_bool HY.out, rfl⟩
        · rw [ho] at CB
          replace CB := hide CB
          have HS := hide (ofT_snoc hkt HK.out ho)
          clear ho
          go_wp2_with (go_at_call 17; refine (unhide CB).mono ?_; rintro e w0 ⟨rfl, hw0⟩; subst w0)
          go_round
          case rel => exact ⟨k + 1, by omega, by go_num, HS.out⟩
          case measure => simp [intOf]; omega
      · have hki : ¬ (k : Int) < M := by omega
        go_wp2
        go_ret
        exact ⟨ret_bool (binB_no HK.out (by omega)), rfl⟩

theorem of_cases (n : Int) : (n = 32 ∨ n = 9 ∨ n = 10 ∨ n = 13 ∨ n = 45 ∨ n = 100) ∨ (n ≠ 32 ∧ n ≠ 9 ∧ n ≠ 10 ∧ n ≠ 13 ∧ n ≠ 45 ∧ n ≠ 100) := by omega

theorem bne_yes {a b : Int} (h : a ≠ b) : (a != b) = true := by simpa using h

set_option maxHeartbeats 4000000 in
theorem refBinary_any (a : Option Addr) (cap : Nat) (t : List UInt8) (w : World) (ht : Txt w.heap.size w a t) (hm : t.length ≤ 4194304) :
    Calls Tryd.prog 9 #[.slice a t.length cap] w fun e w' => e = .returned (.bool (binB t)) ∧ w' = w := by
  have HT := hide ht
  clear ht
  go_enter Tryd.func9, Tryd.ntmps9
  go_wp2
  go_loop [3] (fun i => ∃ k : Nat, k ≤ t.length ∧ k ≤ 10 ∧ i = .int .i64 (k : Int) ∧ Hid ((t.take k).all ofT = true)) (fun i => 10 - (intOf i).toNat)
  case atStart => exact ⟨0, Nat.zero_le _, Nat.zero_le _, rfl, rfl⟩
  case round =>
    obtain ⟨k, hk, hk10, rfl, HK⟩ := hrel
    by_cases hlt : k < t.length
    · have hki : (k : Int) < t.length := by omega
      by_cases h10 : k < 10
      · have hk10i : (k : Int) < 10 := by omega
        obtain ⟨b, off, e, hb, hcell⟩ := HT.out k hlt
        subst e
        have HY : Hid (ofT t[k] = false → true = binB t) := binB_yes hlt h10
        have HS : Hid (ofT t[k] = true → (t.take (k + 1)).all ofT = true) := ofT_snoc hlt HK.out
        have HOY : Hid (∀ n : Int, (t[k].toNat : Int) = n → (n = 32 ∨ n = 9 ∨ n = 10 ∨ n = 13 ∨ n = 45 ∨ n = 100 ∨ (48 ≤ n ∧ n ≤ 57)) → (t.take (k + 1)).all ofT = true) := fun n hn h => HS.out (ofT_yes hn h).symm
        have HON : Hid (∀ n : Int, (t[k].toNat : Int) = n → ¬ (n = 32 ∨ n = 9 ∨ n = 10 ∨ n = 13 ∨ n = 45 ∨ n = 100 ∨ (48 ≤ n ∧ n ≤ 57)) → true = binB t) := fun n hn h => HY.out (ofT_no hn h).symm
        generalize hn : (t[k].toNat : Int) = n at *
        clear HY HS hn
        rcases of_cases n with h | ⟨n1, n2, n3, n4, n5, n6⟩
        · rcases h with rfl | rfl | rfl | rfl | rfl | rfl
          all_goals
            go_wp2
            go_round
            case rel => exact ⟨k + 1, by omega, by omega, by go_num, HOY.out _ rfl (by omega)⟩
            case measure => simp [intOf]; omega
        · have m1 := bne_yes n1
          have m2 := bne_yes n2
          have m3 := bne_yes n3
          have m4 := bne_yes n4
          have m5 := bne_yes n5
          have m6 := bne_yes n6
          by_cases ha : n < 48
          · go_wp2
            go_ret
            exact ⟨ret_bool (HON.out n rfl (by omega)), rfl⟩
          · by_cases hb2 : 57 < n
            · go_wp2
              go_ret
              exact ⟨ret_bool (HON.out n rfl (by omega)), rfl⟩
            · go_wp2
              go_round
              case rel => exact ⟨k + 1, by omega, by omega, by go_num, HOY.out _ rfl (by omega)⟩
              case measure => simp [intOf]; omega
      · have hk10i : ¬ (k : Int) < 10 := by omega
        go_wp2
        go_ret
        exact ⟨ret_bool (binB_no HK.out (by omega)), rfl⟩
    · have hki : ¬ (k : Int) < t.length := by omega
      go_wp2
      go_ret
      exact ⟨ret_bool (binB_no HK.out (by omega)), rfl⟩

end Go.Proofs.YtgklollpajhmlaaDoor
