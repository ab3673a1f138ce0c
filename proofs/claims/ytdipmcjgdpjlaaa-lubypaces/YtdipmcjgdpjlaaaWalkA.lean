/- Contracts: how many bits a number has; places, units; the number at a place, by the program and by the document. -/
import Derived.Test.YtdipmcjgdpjlaaaRows
import Derived.Test.YtdipmcjgdpjlaaaPlain
import Derived.WalkKit
import Derived.WalkSpells
import Derived.BigQuiet
import Derived.OneCell
import Derived.Deep.DeepCutAuto
import Derived.Deep.CutBlock
import Derived.Deep.RegionHeld3
import Derived.Deep.RegionLaw
import Derived.Lib.BitFns
set_option linter.unusedVariables false
set_option linter.unusedSimpArgs false
namespace Go.Proofs.Ytdipmcjgdpjlaaa
open Go.RowKit

theorem hide {p : Prop} (h : p) : Hid p := h
theorem unhide {p : Prop} (h : Hid p) : p := h
theorem ret_bool {a b : Bool} (h : a = b) : Ending.returned (.bool a) = .returned (.bool b) := by rw [h]
theorem ret_int {k : IntKind} {a b : Int} (h : a = b) : Ending.returned (.int k a) = .returned (.int k b) := by rw [h]
/-- A world is forgotten but for what is known of it. -/
theorem forget {P : World → Prop} {w : World} (I : World → Prop) (h : I w) (k : ∀ w', I w' → P w') : P w := k w h

theorem len8tab_all : ∀ n : Fin 256, (Lib.len8tab[n.val]!).toNat = Lib.bitLen n.val := by decide +kernel
theorem len8tab_size : Lib.len8tab.size = 256 := by decide +kernel
theorem len8tab_at (n : Nat) (h : n < Lib.len8tab.size) : Lib.len8tab[n].toNat = Lib.bitLen n := by
  have hn : n < 256 := by rw [len8tab_size] at h; exact h
  have := len8tab_all ⟨n, hn⟩
  rw [← this]
  simp only [getElem!_pos Lib.len8tab n h]
theorem wrap_small {a : Int} (h0 : 0 ≤ a) (h1 : a ≤ 1000) : wrap64 a = a := by
  unfold wrap64; omega
theorem bitLen_of {x k : Nat} (hx : x < 2 ^ 64) (h0 : 2 ^ k ≤ x) (h1 : x < 2 ^ (k + 1)) : Lib.bitLen x = k + 1 := by
  have e : x / 2 ^ k = 1 := by
    have hp : 0 < 2 ^ k := Nat.two_pow_pos k
    rw [Nat.pow_succ] at h1
    refine Nat.div_eq_of_lt_le (by omega) (by omega)
  rw [Lib.bitLen_shift k x h0 hx, e]
  rfl

set_option maxHeartbeats 4000000 in
set_option maxRecDepth 100000 in
theorem len64_any (x : Int) (w : World) (h0 : 0 ≤ x) (h1 : x ≤ 2147483647) :
    Calls Try.prog 24 #[.int .u64 x] w fun e w' => e = .returned (.int .i64 (Lib.bitLen x.toNat)) ∧ w' = w := by
  have hn : ¬ 4294967296 ≤ x := by omega
  have hz : ((Lib.len8tab.size : Nat) : Int) = 256 := by rw [len8tab_size]; rfl
  by_cases hA : 65536 ≤ x
  · by_cases hB : 256 ≤ x / 65536
    · have HB := hide (Lib.bitLen_le8' (x / 16777216) (by omega) (by omega))
      have HS := hide (Lib.bitLen_shift24 x.toNat (by omega) (by omega))
      have hq : 0 ≤ x / 65536 / 256 := by omega
      have hq1 : x / 65536 / 256 < 256 := by omega
      have e : Hid ((x / 65536 / 256).toNat = x.toNat / 16777216) := by show _ = _; omega
      have e2 : Hid ((x / 16777216).toNat = x.toNat / 16777216) := by show _ = _; omega
      go_enter Try.func24, Try.ntmps24
      go_wp2
      go_ret
      refine ⟨ret_int ?_, rfl⟩
      have l := HB.out
      rw [len8tab_at, HS.out, e.out]
      rw [e2.out] at l
      rw [wrap_small (a := (Lib.bitLen (x.toNat / 16777216) : Int)) (by omega) (by omega), wrap_small (by omega) (by omega)]
      omega
    · have HB := hide (Lib.bitLen_le8' (x / 65536) (by omega) (by omega))
      have HS := hide (Lib.bitLen_shift16 x.toNat (by omega) (by omega))
      have hq : 0 ≤ x / 65536 := by omega
      have hq1 : x / 65536 < 256 := by omega
      have e : Hid ((x / 65536).toNat = x.toNat / 65536) := by show _ = _; omega
      go_enter Try.func24, Try.ntmps24
      go_wp2
      go_ret
      refine ⟨ret_int ?_, rfl⟩
      have l := HB.out
      rw [len8tab_at, HS.out, e.out]
      rw [e.out] at l
      rw [wrap_small (a := (Lib.bitLen (x.toNat / 65536) : Int)) (by omega) (by omega), wrap_small (by omega) (by omega)]
      omega
  · by_cases hB : 256 ≤ x
    · have HB := hide (Lib.bitLen_le8' (x / 256) (by omega) (by omega))
      have HS := hide (Lib.bitLen_shift8 x.toNat (by omega) (by omega))
      have hq : 0 ≤ x / 256 := by omega
      have hq1 : x / 256 < 256 := by omega
      have e : Hid ((x / 256).toNat = x.toNat / 256) := by show _ = _; omega
      go_enter Try.func24, Try.ntmps24
      go_wp2
      go_ret
      refine ⟨ret_int ?_, rfl⟩
      have l := HB.out
      rw [len8tab_at, HS.out, e.out]
      rw [e.out] at l
      rw [wrap_small (a := (Lib.bitLen (x.toNat / 256) : Int)) (by omega) (by omega), wrap_small (by omega) (by omega)]
      omega
    · have HB := hide (Lib.bitLen_le8' x (by omega) (by omega))
      go_enter Try.func24, Try.ntmps24
      go_wp2
      go_ret
      refine ⟨ret_int ?_, rfl⟩
      have l := HB.out
      rw [len8tab_at, wrap_small (a := (Lib.bitLen x.toNat : Int)) (by omega) (by omega), wrap_small (by omega) (by omega)]

set_option maxHeartbeats 400000 in
theorem len_any (n k : Nat) (w : World) (h1 : n ≤ 2147483647) (a : 2 ^ k ≤ n) (b : n < 2 ^ (k + 1)) :
    Calls Try.prog 20 #[.int .u64 (n : Int)] w fun e w' => e = .returned (.int .i64 (((k + 1 : Nat)) : Int)) ∧ w' = w := by
  have C := len64_any (n : Int) w (by omega) (by omega)
  rw [Int.toNat_natCast, bitLen_of (by omega) a b] at C
  replace C := hide C
  clear a b
  go_enter Try.func20, Try.ntmps20
  go_wp2_with (go_at_call 24; refine (unhide C).mono ?_; rintro e w' ⟨rfl, rfl⟩)
  go_ret
  exact ⟨rfl, rfl⟩

/-- A number from 1 to a bound. -/
def inB (m x : Int) : Bool := decide (1 ≤ x) && decide (x ≤ m)
theorem inB_true {m x : Int} (h : inB m x = true) : 1 ≤ x ∧ x ≤ m := by unfold inB at h; simpa using h
theorem inB_false {m x : Int} (h : inB m x = false) : x < 1 ∨ m < x := by unfold inB at h; simp at h; omega
theorem inB_mk {m x : Int} (h : 1 ≤ x) (h1 : x ≤ m) : inB m x = true := by unfold inB; simp [h, h1]
theorem inB_no {m x : Int} (h : x < 1 ∨ m < x) : inB m x = false := by unfold inB; simp; omega

set_option maxHeartbeats 400000 in
theorem isPlace_any (x : Int) (w : World) : Calls Try.prog 18 #[.int .i64 x] w fun e w' => e = .returned (.bool (inB 1073741824 x)) ∧ w' = w := by
  by_cases h : 1 ≤ x
  · by_cases h1 : x ≤ 1073741824
    · have HI := hide (inB_mk h h1)
      go_enter Try.func18, Try.ntmps18
      go_wp2
      go_ret
      exact ⟨ret_bool HI.out.symm, rfl⟩
    · have HI := hide (inB_no (m := 1073741824) (x := x) (by omega))
      go_enter Try.func18, Try.ntmps18
      go_wp2
      go_ret
      exact ⟨ret_bool HI.out.symm, rfl⟩
  · have HI := hide (inB_no (m := 1073741824) (x := x) (by omega))
    go_enter Try.func18, Try.ntmps18
    go_wp2
    go_ret
    exact ⟨ret_bool HI.out.symm, rfl⟩
set_option maxHeartbeats 400000 in
theorem isUnit_any (x : Int) (w : World) : Calls Try.prog 22 #[.int .i64 x] w fun e w' => e = .returned (.bool (inB 1048576 x)) ∧ w' = w := by
  by_cases h : 1 ≤ x
  · by_cases h1 : x ≤ 1048576
    · have HI := hide (inB_mk h h1)
      go_enter Try.func22, Try.ntmps22
      go_wp2
      go_ret
      exact ⟨ret_bool HI.out.symm, rfl⟩
    · have HI := hide (inB_no (m := 1048576) (x := x) (by omega))
      go_enter Try.func22, Try.ntmps22
      go_wp2
      go_ret
      exact ⟨ret_bool HI.out.symm, rfl⟩
  · have HI := hide (inB_no (m := 1048576) (x := x) (by omega))
    go_enter Try.func22, Try.ntmps22
    go_wp2
    go_ret
    exact ⟨ret_bool HI.out.symm, rfl⟩

set_option maxHeartbeats 4000000 in
set_option maxRecDepth 100000 in
theorem numberAt_any (n : Nat) (w : World) (h : 1 ≤ n) (h1 : n ≤ 1073741824) :
    Calls Try.prog 19 #[.int .i64 (n : Int)] w fun e w' => e = .returned (.int .i64 (lub n : Int)) ∧ w' = w := by
  go_enter Try.func19, Try.ntmps19
  go_wp2
  go_loop [0] (fun x => ∃ m : Nat, 1 ≤ m ∧ m ≤ 1073741824 ∧ x = .int .i64 (m : Int) ∧ Hid (lub m = lub n)) (fun x => (intOf x).toNat)
  case atStart => exact ⟨n, h, h1, rfl, rfl⟩
  case round =>
    obtain ⟨m, hm, hm1, rfl, HL⟩ := hrel
    clear h h1
    obtain ⟨k, a, b⟩ := log_ex m hm
    have hk : k ≤ 30 := by have := log_le a (f := 31) (by omega); omega
    have C := hide (len_any m k w (by omega) a b)
    obtain ⟨P, hPe, hP, hP1, hP0⟩ : ∃ P : Nat, Hid (2 ^ k = P) ∧ ((2 : Int) ^ k = (P : Int)) ∧ P ≤ 1073741824 ∧ 1 ≤ P :=
      ⟨2 ^ k, rfl, by push_cast; rfl, Nat.pow_le_pow_right (n := 2) (by omega) hk, Nat.two_pow_pos k⟩
    by_cases he : m + 1 = 2 * P
    · have hv : Hid (lub m = P) := by
        show _ = _
        rw [lub_end (n := m) (k := k) (by rw [Nat.pow_succ, hPe.out]; omega), hPe.out]
      have hmb : ((m : Int) == 2 * (P : Int) - 1) = true := by simp; omega
      clear a b he
      go_wp2_with (go_at_call 20; refine (unhide C).mono ?_; rintro e w0 ⟨rfl, hw0⟩; subst w0)
      go_ret
      exact ⟨ret_int (by rw [← HL.out, hv.out]), rfl⟩
    · have hpa : P ≤ m := by rw [← hPe.out]; exact a
      have hpb : m + 1 < 2 * P := by
        have := b
        rw [Nat.pow_succ, hPe.out] at this; omega
      have hv : Hid (lub m = lub (m + 1 - P)) := by
        show _ = _
        rw [lub_step (n := m) (k := k) (by omega) a (by rw [Nat.pow_succ, hPe.out]; omega), hPe.out]
      have hmb : ((m : Int) == 2 * (P : Int) - 1) = false := by simp; omega
      have hw1 : wrap64 ((m : Int) - ((P : Int) - 1)) = ((m + 1 - P : Nat) : Int) := by unfold wrap64; omega
      clear a b
      go_wp2_with (go_at_call 20; refine (unhide C).mono ?_; rintro e w0 ⟨rfl, hw0⟩; subst w0)
      go_round
      case rel => exact ⟨m + 1 - P, by omega, by omega, by first | rfl | (congr 1; omega), by rw [← hv.out]; exact HL⟩
      case measure => simp [intOf]; omega

end Go.Proofs.Ytdipmcjgdpjlaaa
