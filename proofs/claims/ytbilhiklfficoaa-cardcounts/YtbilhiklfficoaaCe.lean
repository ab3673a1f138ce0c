/- Contracts: how many bits are enough, by the program and by the document. -/
import Derived.Test.YtbilhiklfficoaaCd
import Derived.WalkSpells
import Derived.Lib.BitFns
set_option linter.unusedVariables false
set_option linter.unusedSimpArgs false
namespace Go.Proofs.Ytbilhiklfficoaa
open Go.RowKit Go.Maps

theorem len8tab_all : ∀ n : Fin 256, (Lib.len8tab[n.val]!).toNat = Lib.bitLen n.val := by decide +kernel
theorem len8tab_size : Lib.len8tab.size = 256 := by decide +kernel
theorem len8tab_at (n : Nat) (h : n < Lib.len8tab.size) : Lib.len8tab[n].toNat = Lib.bitLen n := by
  have hn : n < 256 := by rw [len8tab_size] at h; exact h
  have := len8tab_all ⟨n, hn⟩
  rw [← this]
  simp only [getElem!_pos Lib.len8tab n h]
theorem wrap_small {a : Int} (h0 : 0 ≤ a) (h1 : a ≤ 1000) : wrap64 a = a := by
  unfold wrap64; omega
theorem bitLen_of {x k : Nat} (hx : x < 2 ^ 64) (h0 : 2 ^ k ≤ x) (h1 : x < 2 ^ (k + 1)) : Lib.bitLen x = k + 1 := by
  have e : x / 2 ^ k = 1 := by
    have hp : 0 < 2 ^ k := Nat.two_pow_pos k
    rw [Nat.pow_succ] at h1
    refine Nat.div_eq_of_lt_le (by omega) (by omega)
  rw [Lib.bitLen_shift k x h0 hx, e]
  rfl

set_option maxHeartbeats 4000000 in
set_option maxRecDepth 100000 in
theorem len64_any (x : Int) (w : World) (h0 : 0 ≤ x) (h1 : x ≤ 2147483647) :
    Calls Try.prog 57 #[.int .u64 x] w fun e w' => e = .returned (.int .i64 (Lib.bitLen x.toNat)) ∧ w' = w := by
  have hn : ¬ 4294967296 ≤ x := by omega
  have hz : ((Lib.len8tab.size : Nat) : Int) = 256 := by rw [len8tab_size]; rfl
  by_cases hA : 65536 ≤ x
  · by_cases hB : 256 ≤ x / 65536
    · have HB := hide (Lib.bitLen_le8' (x / 16777216) (by omega) (by omega))
      have HS := hide (Lib.bitLen_shift24 x.toNat (by omega) (by omega))
      have hq : 0 ≤ x / 65536 / 256 := by omega
      have hq1 : x / 65536 / 256 < 256 := by omega
      have e : Hid ((x / 65536 / 256).toNat = x.toNat / 16777216) := by show _ = _; omega
      have e2 : Hid ((x / 16777216).toNat = x.toNat / 16777216) := by show _ = _; omega
      go_enter Try.func57, Try.ntmps57
      go_wp2
      go_ret
      refine ⟨ret_int ?_, rfl⟩
      have l := HB.out
      rw [len8tab_at, HS.out, e.out]
      rw [e2.out] at l
      rw [wrap_small (a := (Lib.bitLen (x.toNat / 16777216) : Int)) (by omega) (by omega), wrap_small (by omega) (by omega)]
      omega
    · have HB := hide (Lib.bitLen_le8' (x / 65536) (by omega) (by omega))
      have HS := hide (Lib.bitLen_shift16 x.toNat (by omega) (by omega))
      have hq : 0 ≤ x / 65536 := by omega
      have hq1 : x / 65536 < 256 := by omega
      have e : Hid ((x / 65536).toNat = x.toNat / 65536) := by show _ = _; omega
      go_enter Try.func57, Try.ntmps57
      go_wp2
      go_ret
      refine ⟨ret_int ?_, rfl⟩
      have l := HB.out
      rw [len8tab_at, HS.out, e.out]
      rw [e.out] at l
      rw [wrap_small (a := (Lib.bitLen (x.toNat / 65536) : Int)) (by omega) (by omega), wrap_small (by omega) (by omega)]
      omega
  · by_cases hB : 256 ≤ x
    · have HB := hide (Lib.bitLen_le8' (x / 256) (by omega) (by omega))
      have HS := hide (Lib.bitLen_shift8 x.toNat (by omega) (by omega))
      have hq : 0 ≤ x / 256 := by omega
      have hq1 : x / 256 < 256 := by omega
      have e : Hid ((x / 256).toNat = x.toNat / 256) := by show _ = _; omega
      go_enter Try.func57, Try.ntmps57
      go_wp2
      go_ret
      refine ⟨ret_int ?_, rfl⟩
      have l := HB.out
      rw [len8tab_at, HS.out, e.out]
      rw [e.out] at l
      rw [wrap_small (a := (Lib.bitLen (x.toNat / 256) : Int)) (by omega) (by omega), wrap_small (by omega) (by omega)]
      omega
    · have HB := hide (Lib.bitLen_le8' x (by omega) (by omega))
      go_enter Try.func57, Try.ntmps57
      go_wp2
      go_ret
      refine ⟨ret_int ?_, rfl⟩
      have l := HB.out
      rw [len8tab_at, wrap_small (a := (Lib.bitLen x.toNat : Int)) (by omega) (by omega), wrap_small (by omega) (by omega)]


/-- How many bits are enough for a number. -/
def enN (n : Nat) : Nat := Nat.log2 n + 1
theorem enN_lt (n : Nat) : n < 2 ^ enN n := Nat.lt_log2_self
theorem enN_le {n w : Nat} (h1 : 1 ≤ w) (h : w < enN n) : 2 ^ w ≤ n := by
  unfold enN at h
  by_cases h0 : n = 0
  · subst h0; simp at h; omega
  · exact (Nat.le_log2 h0).1 (by omega)
theorem enN_16 {n : Nat} (h : n ≤ 65535) : 1 ≤ enN n ∧ enN n ≤ 16 := by
  refine ⟨by unfold enN; omega, ?_⟩
  by_cases h0 : n = 0
  · subst h0; decide
  · have : n.log2 < 16 := (Nat.log2_lt h0).2 (by omega)
    unfold enN; omega
theorem bitLen_en {n : Nat} (h0 : n ≠ 0) (h : n ≤ 65535) : Lib.bitLen n = enN n :=
  bitLen_of (by omega) (Nat.log2_self_le h0) Nat.lt_log2_self
/-- Of any int. -/
def enI (x : Int) : Int := if 0 ≤ x ∧ x ≤ 65535 then (enN x.toNat : Int) else 0

section
variable (w : World)
set_option maxHeartbeats 400000 in
theorem lenB_any (n : Nat) (h1 : n ≤ 65535) :
    Calls Try.prog 44 #[.int .u64 (n : Int)] w fun e w' => e = .returned (.int .i64 ((Lib.bitLen n : Nat) : Int)) ∧ w' = w := by
  have C := len64_any (n : Int) w (by omega) (by omega)
  rw [Int.toNat_natCast] at C
  replace C := hide C
  go_enter Try.func44, Try.ntmps44
  go_wp2_with (go_at_call 57; refine (unhide C).mono ?_; rintro e w' ⟨rfl, rfl⟩)
  go_ret
  exact ⟨rfl, rfl⟩

set_option maxHeartbeats 400000 in
theorem enough_any (x : Int) (hx : inI64 x) : Calls Try.prog 22 #[.int .i64 x] w fun e w' => e = .returned (.int .i64 (enI x)) ∧ w' = w := by
  by_cases h0 : 0 ≤ x
  · by_cases h1 : x ≤ 65535
    · obtain ⟨n, rfl⟩ := Int.eq_ofNat_of_zero_le h0
      have hn : n ≤ 65535 := by omega
      have C := hide (lenB_any w n hn)
      have hv : enI (n : Int) = max ((Lib.bitLen n : Nat) : Int) 1 := by
        unfold enI
        rw [if_pos ⟨h0, h1⟩, Int.toNat_natCast]
        by_cases hz : n = 0
        · subst hz; decide
        · rw [bitLen_en hz hn]
          have := (enN_16 hn).1
          omega
      rw [hv]
      have RM := fun (W : World) (a : Int) => (run_minmax a 1 W).2
      generalize hb : ((Lib.bitLen n : Nat) : Int) = b at *
      have d1 : decide ((n : Int) < 0) = false := by simp
      have d2 : decide ((65536 : Int) ≤ (n : Int)) = false := by simp; omega
      clear hv hb
      go_enter Try.func22, Try.ntmps22
      go_wp2_with (go_at_call 44; refine (unhide C).mono ?_; rintro e w' ⟨rfl, rfl⟩)
      go_ret
      exact ⟨rfl, rfl⟩
    · have hv : enI x = 0 := by unfold enI; rw [if_neg (by omega)]
      rw [hv]
      have d1 : decide (x < 0) = false := by simp; omega
      have d2 : decide ((65536 : Int) ≤ x) = true := by simp; omega
      go_enter Try.func22, Try.ntmps22
      go_wp2
      go_ret
      exact ⟨rfl, rfl⟩
  · have hv : enI x = 0 := by unfold enI; rw [if_neg (by omega)]
    rw [hv]
    have d1 : decide (x < 0) = true := by simp; omega
    go_enter Try.func22, Try.ntmps22
    go_wp2
    go_ret
    exact ⟨rfl, rfl⟩
end
end Go.Proofs.Ytbilhiklfficoaa
