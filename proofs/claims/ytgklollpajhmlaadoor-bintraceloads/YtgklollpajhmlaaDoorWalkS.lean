/- Contracts of the program: a literal's number, the literal of a number, how many bytes a literal takes. -/
import Derived.Test.YtgklollpajhmlaaDoorWalkC
import Derived.Test.YtgklollpajhmlaaDoorPlainB
import Derived.Lib.BitFns
set_option linter.unusedVariables false
set_option linter.unusedSimpArgs false
namespace Go.Proofs.YtgklollpajhmlaaDoor
open Go.RowKit

theorem len8tab_all : ∀ n : Fin 256, (Lib.len8tab[n.val]!).toNat = Lib.bitLen n.val := by decide +kernel

theorem len8tab_size : Lib.len8tab.size = 256 := by decide +kernel

theorem len8tab_at (n : Nat) (h : n < Lib.len8tab.size) : Lib.len8tab[n].toNat = Lib.bitLen n := by
  have hn : n < 256 := by rw [len8tab_size] at h; exact h
  have := len8tab_all ⟨n, hn⟩
  rw [← this]
  simp only [getElem!_pos Lib.len8tab n h]

theorem wrap_small {a : Int} (h0 : 0 ≤ a) (h1 : a ≤ 1000) : wrap64 a = a := by
  unfold wrap64; omega

set_option maxHeartbeats 4000000 in
set_option maxRecDepth 100000 in
theorem len64_any (x : Int) (w : World) (h0 : 0 ≤ x) (h1 : x ≤ 2097153) :
    Calls Tryd.prog 53 #[.int .u64 x] w fun e w' => e = .returned (.int .i64 (Lib.bitLen x.toNat)) ∧ w' = w := by
  have hn : ¬ 4294967296 ≤ x := by omega
  have hz : ((Lib.len8tab.size : Nat) : Int) = 256 := by rw [len8tab_size]; rfl
  by_cases hA : 65536 ≤ x
  · have hB : ¬ 256 ≤ x / 65536 := by omega
    have HB := hide (Lib.bitLen_le8' (x / 65536) (by omega) (by omega))
    have HS := hide (Lib.bitLen_shift16 x.toNat (by omega) (by omega))
    have hq : 0 ≤ x / 65536 := by omega
    have hq1 : x / 65536 < 256 := by omega
    have e : Hid ((x / 65536).toNat = x.toNat / 65536) := by show _ = _; omega
    go_enter Tryd.func53, Tryd.ntmps53
    go_wp2
    go_ret
    refine ⟨ret_int ?_, rfl⟩
    have l := HB.out
    rw [len8tab_at, HS.out, e.out]
    rw [e.out] at l
    rw [wrap_small (a := (Lib.bitLen (x.toNat / 65536) : Int)) (by omega) (by omega), wrap_small (by omega) (by omega)]
    omega
  · by_cases hB : 256 ≤ x
    · have HB := hide (Lib.bitLen_le8' (x / 256) (by omega) (by omega))
      have HS := hide (Lib.bitLen_shift8 x.toNat (by omega) (by omega))
      have hq : 0 ≤ x / 256 := by omega
      have hq1 : x / 256 < 256 := by omega
      have e : Hid ((x / 256).toNat = x.toNat / 256) := by show _ = _; omega
      go_enter Tryd.func53, Tryd.ntmps53
      go_wp2
      go_ret
      refine ⟨ret_int ?_, rfl⟩
      have l := HB.out
      rw [len8tab_at, HS.out, e.out]
      rw [e.out] at l
      rw [wrap_small (a := (Lib.bitLen (x.toNat / 256) : Int)) (by omega) (by omega), wrap_small (by omega) (by omega)]
      omega
    · have HB := hide (Lib.bitLen_le8' x (by omega) (by omega))
      go_enter Tryd.func53, Tryd.ntmps53
      go_wp2
      go_ret
      refine ⟨ret_int ?_, rfl⟩
      have l := HB.out
      rw [len8tab_at, wrap_small (a := (Lib.bitLen x.toNat : Int)) (by omega) (by omega), wrap_small (by omega) (by omega)]

set_option maxHeartbeats 400000 in
theorem len_any (x : Int) (w : World) (h0 : 0 ≤ x) (h1 : x ≤ 2097153) :
    Calls Tryd.prog 46 #[.int .u64 x] w fun e w' => e = .returned (.int .i64 (Lib.bitLen x.toNat)) ∧ w' = w := by
  go_enter Tryd.func46, Tryd.ntmps46
  go_wp2_with (go_at_call 53; refine (len64_any x _ h0 h1).mono ?_; rintro e w' ⟨rfl, rfl⟩)
  go_ret
  exact ⟨rfl, rfl⟩

set_option maxHeartbeats 400000 in
theorem numberOf_any (l : Int) (w : World) (h0 : -1048576 ≤ l) (h1 : l ≤ 1048576) :
    Calls Tryd.prog 33 #[.int .i64 l] w fun e w' => e = .returned (.int .i64 (nbI l)) ∧ w' = w := by
  have HN : Hid ((nbI l : Int) = if l < 0 then -2 * l + 1 else 2 * l) := by
    show _ = _
    unfold nbI; split <;> omega
  by_cases hl : l < 0
  all_goals
    go_enter Tryd.func33, Tryd.ntmps33
    go_wp2
    go_ret
    exact ⟨ret_int (by rw [HN.out]; first | rw [if_pos (by omega)] | rw [if_neg (by omega)]), rfl⟩

set_option maxHeartbeats 400000 in
theorem literalOf_any (n : Nat) (w : World) (h1 : n ≤ 1000000000) :
    Calls Tryd.prog 41 #[.int .i64 (n : Int)] w fun e w' => e = .returned (.int .i64 (litOf n)) ∧ w' = w := by
  by_cases ho : n % 2 = 1
  · have hi : (n : Int) % 2 = 1 := by omega
    have HN : Hid (litOf n = -((n : Int) / 2)) := by
      show _ = _
      unfold litOf; rw [if_pos ho]; omega
    go_enter Tryd.func41, Tryd.ntmps41
    go_wp2
    go_ret
    exact ⟨ret_int HN.out.symm, rfl⟩
  · have hi : (n : Int) % 2 = 0 := by omega
    have HN : Hid (litOf n = (n : Int) / 2) := by
      show _ = _
      unfold litOf; rw [if_neg ho]; omega
    go_enter Tryd.func41, Tryd.ntmps41
    go_wp2
    go_ret
    exact ⟨ret_int HN.out.symm, rfl⟩

theorem bitLen_small : ∀ n : Fin 128, 1 ≤ n.val → 1 ≤ Lib.bitLen n.val ∧ Lib.bitLen n.val ≤ 7 := by decide +kernel

theorem bytF_bits : ∀ (f n : Nat), 1 ≤ n → n < 128 ^ (f + 1) → n < 18446744073709551616 → (Lib.bitLen n + 6) / 7 = (bytF f n).length
  | 0, n, h, h1, _ => by
    have hn : n < 128 := by simpa using h1
    have := bitLen_small ⟨n, hn⟩ h
    simp only at this
    simp only [bytF, List.length_singleton]; omega
  | f + 1, n, h, h1, h2 => by
    unfold bytF
    by_cases hn : n < 128
    · rw [if_pos hn]
      have := bitLen_small ⟨n, hn⟩ h
      simp only at this
      simp only [List.length_singleton]; omega
    · rw [if_neg hn]
      have e := Lib.bitLen_shift 7 n (by omega) (by omega)
      have ih := bytF_bits f (n / 128) (by omega) (by rw [Nat.pow_succ] at h1; omega) (by omega)
      simp only [List.length_cons]
      rw [← ih, e]
      have : n / 2 ^ 7 = n / 128 := rfl
      rw [this]
      omega

set_option maxHeartbeats 800000 in
theorem size_any (l : Int) (w : World) :
    Calls Tryd.prog 40 #[.int .i64 l] w fun e w' => e = .returned (.int .i64 (sizeN l : Int)) ∧ Below w.heap.size w w' := by
  have K := check_any (some ⟨w.heap.size, 0, none⟩) 1 [l] (w.alloc (.cells #[.int .i64 l] 3)) (lit_row w [l]) (by simp [maxLen])
  rw [mayB_one] at K
  cases hlit : litB l 1048576
  · rw [hlit] at K
    replace K := hide K
    have HN : Hid (sizeN l = 0) := by
      show _ = _
      unfold sizeN; rw [hlit]; rfl
    clear hlit
    go_enter Tryd.func40, Tryd.ntmps40
    go_wp2_with (go_at_call 30; refine (unhide K).mono ?_; rintro e w0 ⟨rfl, hw0⟩; subst w0)
    go_ret
    exact ⟨ret_int (by rw [HN.out]; rfl), below_alloc _ _⟩
  · have hb := nbI_bd hlit
    have hl := (litB_true.1 hlit).2
    have HN : Hid ((sizeN l : Int) = ((Lib.bitLen (nbI l : Int).toNat : Int) + 6) / 7) := by
      show _ = _
      unfold sizeN
      rw [if_pos hlit, Int.toNat_natCast]
      have := bytF_bits 3 (nbI l) (by omega) (by omega) (by omega)
      unfold bytL
      rw [← this]
      omega
    have HL : (Lib.bitLen (nbI l : Int).toNat : Int) ≤ 1000 := by
      have h4 := sizeN_le l
      have := HN.out
      omega
    rw [hlit] at K
    replace K := hide K
    have C1 := hide (numberOf_any l (w.alloc (.cells #[.int .i64 l] 3)) hl.1 hl.2)
    have C2 := hide (len_any (nbI l : Int) (w.alloc (.cells #[.int .i64 l] 3)) (by omega) (by omega))
    clear hlit
    generalize nbI l = n at *
    generalize hm : Lib.bitLen (n : Int).toNat = m at *
    clear hm
    go_enter Tryd.func40, Tryd.ntmps40
    go_wp2_with (first
      | (go_at_call 30; refine (unhide K).mono ?_; rintro e w0 ⟨rfl, hw0⟩; subst w0)
      | (go_at_call 33; refine (unhide C1).mono ?_; rintro e w0 ⟨rfl, hw0⟩; subst w0)
      | (go_at_call 46; refine (unhide C2).mono ?_; rintro e w0 ⟨rfl, hw0⟩; subst w0))
    go_ret
    exact ⟨ret_int (by rw [HN.out]; congr 1; omega), below_alloc _ _⟩

end Go.Proofs.YtgklollpajhmlaaDoor
