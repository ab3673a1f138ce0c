/- A graph as it lies in memory, the keys of its map, and the contracts of the small functions. -/
import Derived.Test.YtbilhiklfficoaaRows
import Derived.Test.YtbilhiklfficoaaPlain
import Derived.WalkKit
import Derived.WalkSpells
import Derived.BigQuiet
import Derived.OneCell
import Derived.LaidEqlPtr
import Derived.DeepKeys4
import Derived.Laws.AppendOwnNone
import Derived.Maps.AppendAt
import Derived.Maps.OwnSet
import Derived.Deep.AppendLies
set_option linter.unusedVariables false
set_option linter.unusedSimpArgs false
namespace Go.Proofs.Ytbilhiklfficoaa
open Go.RowKit Go.Maps

theorem hide {p : Prop} (h : p) : Hid p := h
theorem unhide {p : Prop} (h : Hid p) : p := h
theorem ret_bool {a b : Bool} (h : a = b) : Ending.returned (.bool a) = .returned (.bool b) := by rw [h]
theorem ret_int {k : IntKind} {a b : Int} (h : a = b) : Ending.returned (.int k a) = .returned (.int k b) := by rw [h]
/-- A world is forgotten but for what is known of it. -/
theorem forget {P : World → Prop} {w : World} (I : World → Prop) (h : I w) (k : ∀ w', I w' → P w') : P w := k w h
theorem below_alloc (w : World) (o : Obj) : Below w.heap.size w (w.alloc o) := (Below.refl _ _).alloc (Nat.le_refl _) o
theorem below_drewN {N : Nat} {a w : World} (h : Below N a w) (n : Nat) : Below N a (w.drewN n) := ⟨h.os, h.tape, h.output, h.size, h.block⟩

theorem Try.info3 : (Try.prog.info? 3).map (fun i => (i.zero, i.size, i.bytes)) = some (some (.int .i64 0), 1, 8) := by kernel_rfl
theorem Try.info60 : (Try.prog.info? 60).map (fun i => (i.zero, i.size, i.bytes)) = some (some (.agg #[.int .i64 0, .int .i64 0]), 2, 16) := by kernel_rfl
theorem Try.info65 : (Try.prog.info? 65).map (·.size) = some 3 := by kernel_rfl
theorem Try.laidOut : laidOutB Try.prog = true := by kernel_rfl
theorem Try.row76 : (60 : TypeId) < Try.prog.types.size := of_decide_eq_true (by kernel_rfl)
theorem Try.wide76 : (match Try.prog.underlying 60 with | some (.array _ _) | some (.struct _) => true | _ => false) = true := by kernel_rfl
theorem law53 : Keyed Try.prog 60 := Keyed.of_law (deep_law_laid Try.laidOut (m := 2) (by omega) Try.row76 (by kernel_rfl) Try.wide76)
theorem zero3 (w : World) : (zeroValue 3).run Try.prog w = .ok (.int .i64 0) w := by kernel_rfl

/-! ### bits -/
def inI64 (a : Int) : Prop := -9223372036854775808 ≤ a ∧ a ≤ 9223372036854775807
theorem nat_xor_one (m : Nat) : m ^^^ 1 = if m % 2 = 0 then m + 1 else m - 1 := by
  have h1 : (m ^^^ 1) / 2 = m / 2 := by rw [Nat.xor_div_two]; simp
  have h2 : (m ^^^ 1) % 2 = (m + 1) % 2 := by
    have e := Nat.xor_mod_two_pow (a := m) (b := 1) (n := 1)
    rw [show (2 : Nat) ^ 1 = 2 from rfl] at e
    rw [e]
    have := Nat.mod_two_eq_zero_or_one m
    rcases this with h | h
    · rw [h, show (0 : Nat) ^^^ 1 % 2 = 1 from rfl]; omega
    · rw [h, show (1 : Nat) ^^^ 1 % 2 = 0 from rfl]; omega
  split <;> omega
theorem xor_one {a : Int} (h : inI64 a) : bits .xor .i64 a 1 = notI a := by
  obtain ⟨h1, h2⟩ := h
  have e1 : (BitVec.ofInt 64 a).toNat = (a % 18446744073709551616).toNat := by simp [BitVec.toNat_ofInt]
  show IntKind.i64.wrap ((BitVec.ofInt 64 a ^^^ BitVec.ofInt 64 1).toNat : Int) = _
  rw [BitVec.toNat_xor, e1, show (BitVec.ofInt 64 1).toNat = 1 from rfl, nat_xor_one, IntKind.wrap_i64]
  unfold notI
  split <;> split <;> omega
theorem and_one {a : Int} (h : inI64 a) : bits .and .i64 a 1 = a % 2 := by
  obtain ⟨h1, h2⟩ := h
  have e1 : (BitVec.ofInt 64 a).toNat = (a % 18446744073709551616).toNat := by simp [BitVec.toNat_ofInt]
  show IntKind.i64.wrap ((BitVec.ofInt 64 a &&& BitVec.ofInt 64 1).toNat : Int) = _
  rw [BitVec.toNat_and, e1, show (BitVec.ofInt 64 1).toNat = 1 from rfl, Nat.and_one_is_mod, IntKind.wrap_i64]
  omega
theorem notI_i64 {a : Int} (h : inI64 a) : inI64 (notI a) := by
  unfold inI64 notI at *; split <;> omega

/-! ### keys -/
def kl (a b : Int) : Lit := .string (keyBytes [.int .i64 a, .int .i64 b])
theorem key53 {a b : Int} (ha : inI64 a) (hb : inI64 b) : keyOf Try.prog 60 (.agg #[.int .i64 a, .int .i64 b]) = some (kl a b) := by
  have wa : (Lit.int .i64 a).wf = true := WalkArith.wf_i64 ha
  have wb : (Lit.int .i64 b).wf = true := WalkArith.wf_i64 hb
  have hf : (Value.agg #[.int .i64 a, .int .i64 b]).formed Try.prog 60 = true := by
    simp [Value.formed, Try.underlying60, show Try.prog.cellsOf 60 = 2 from by kernel_rfl]
  have hk : Try.prog.keyType 60 = true := by kernel_rfl
  have hl : ∀ n, Try.prog.keyLits (n + 2) 60 [.int .i64 a, .int .i64 b] = some [.int .i64 a, .int .i64 b] := by
    intro n
    have c53 : Try.prog.cellsOf 60 = 2 := by kernel_rfl
    have c3 : Try.prog.cellsOf 3 = 1 := by kernel_rfl
    simp [Program.keyLits, Try.underlying60, Try.underlying3, c53, c3, wa, wb]
  unfold keyOf
  rw [Try.underlying60]
  have := hl 102
  simp only [hk, hf]
  have e : Try.prog.types.size + 1 = 102 + 2 := by kernel_rfl
  rw [e]
  simp only [Value.cells]
  rw [this]
  rfl
theorem kl_inj {a b c d : Int} (ha : inI64 a) (hb : inI64 b) (hc : inI64 c) (hd : inI64 d) (h : kl a b = kl c d) : a = c ∧ b = d := by
  have e1 := key53 ha hb
  have e2 := key53 hc hd
  rw [← h] at e2
  have := law53.inj e1 e2
  simp at this
  exact this
end Go.Proofs.Ytbilhiklfficoaa
