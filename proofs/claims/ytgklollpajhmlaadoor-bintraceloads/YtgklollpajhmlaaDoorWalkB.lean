/- Bytes in memory; contract: which bytes part words; a word out of a text. -/
import Derived.Test.YtgklollpajhmlaaDoorWalkN
import Derived.Test.YtgklollpajhmlaaDoorWalkD
import Derived.Test.YtgklollpajhmlaaDoorPlainT
import Derived.Lib.BytesEntry
import Derived.OwnWalk
import Derived.Laws.IdiomStrings
import Derived.Laws.BytesArg
set_option linter.unusedVariables false
set_option linter.unusedSimpArgs false
namespace Go.Proofs.YtgklollpajhmlaaDoor
open Go.RowKit

/-- A slice's bytes as they lie in memory, in a block below B. -/
def Txt (B : Nat) (w : World) (a : Option Addr) (t : List UInt8) : Prop :=
  ∀ i (h : i < t.length), ∃ b off, a = some ⟨b, off, none⟩ ∧ b < B ∧ w.cell? ⟨b, off + i, none⟩ = some (.int .u8 (t[i].toNat : Int))

theorem Txt.mono {B B' : Nat} {w : World} {a : Option Addr} {t : List UInt8} (h : Txt B w a t) (hb : B ≤ B') : Txt B' w a t := by
  intro i hi
  obtain ⟨b, off, e, hlt, hc⟩ := h i hi
  exact ⟨b, off, e, Nat.lt_of_lt_of_le hlt hb, hc⟩

theorem Txt.below {B : Nat} {w w' : World} {a : Option Addr} {t : List UInt8} (h : Txt B w a t) (hb : Below B w w') : Txt B w' a t := by
  intro i hi
  obtain ⟨b, off, e, hlt, hc⟩ := h i hi
  exact ⟨b, off, e, hlt, (hb.cell (p := ⟨b, off + i, none⟩) hlt).trans hc⟩

theorem Txt.at {B : Nat} {w : World} {b off : Nat} {t : List UInt8} (h : Txt B w (some ⟨b, off, none⟩) t) {i : Nat} {c : UInt8} (hc : t[i]? = some c) : w.cell? ⟨b, off + i, none⟩ = some (.int .u8 (c.toNat : Int)) := by
  obtain ⟨hi, rfl⟩ := List.getElem?_eq_some_iff.1 hc
  obtain ⟨b', off', e, _, hcc⟩ := h i hi
  simp at e
  obtain ⟨rfl, rfl⟩ := e
  exact hcc

theorem Txt.cells {B : Nat} {w : World} {a : Option Addr} {t : List UInt8} (h : Txt B w a t) (h0 : 0 < t.length) : ∃ b off, a = some ⟨b, off, none⟩ ∧ b < B ∧ ∀ i (h : i < t.length), w.cell? ⟨b, off + i, none⟩ = some (.int .u8 (t[i].toNat : Int)) := by
  obtain ⟨b, off, rfl, hb, _⟩ := h 0 h0
  refine ⟨b, off, rfl, hb, fun i hi => ?_⟩
  obtain ⟨b', off', e, _, hc⟩ := h i hi
  simp at e
  obtain ⟨rfl, rfl⟩ := e
  exact hc

theorem u8_is (c : UInt8) (k : Nat) (hk : k < 256) : ((c.toNat : Int) = k) = (c = k.toUInt8) := by
  apply propext
  constructor
  · intro h; apply UInt8.toNat_inj.1; simp; omega
  · intro h; subst h; simp; omega

theorem blankB_int (c : UInt8) : blankB c = (((decide ((c.toNat : Int) = 32) || decide ((c.toNat : Int) = 9)) || decide ((c.toNat : Int) = 10)) || decide ((c.toNat : Int) = 13)) := by
  have h32 := u8_is c 32 (by omega)
  have h9 := u8_is c 9 (by omega)
  have h10 := u8_is c 10 (by omega)
  have h13 := u8_is c 13 (by omega)
  unfold blankB
  rw [Bool.eq_iff_iff]
  simp only [Bool.or_eq_true, beq_iff_eq, decide_eq_true_eq]
  rw [show ((c.toNat : Int) = 32) = (c = 32) from h32, show ((c.toNat : Int) = 9) = (c = 9) from h9, show ((c.toNat : Int) = 10) = (c = 10) from h10, show ((c.toNat : Int) = 13) = (c = 13) from h13]

set_option maxHeartbeats 400000 in
theorem isBlank_any (c : UInt8) (w : World) :
    Calls Tryd.prog 23 #[.int .u8 (c.toNat : Int)] w fun e w' => e = .returned (.bool (blankB c)) ∧ w' = w := by
  have HB := hide (blankB_int c)
  go_enter Tryd.func23, Tryd.ntmps23
  go_wp2
  all_goals
    go_ret
    exact ⟨ret_bool (by rw [HB.out, Bool.eq_iff_iff]; simp [*]), rfl⟩

/-- A piece of a text, as a string. -/
theorem cut_text {B : Nat} {w : World} {b off p cp n : Nat} {t v : List UInt8} (h : Txt B w (some ⟨b, off, none⟩) t) (hn : n = v.length) (hv : ∀ k (h : k < v.length), t[p + k]? = some v[k]) :
    (convert 22 9 (.slice (some ⟨b, off + p, none⟩) n cp)).run Tryd.prog w = .ok (.string (str v)) w := by
  subst hn
  refine run_convert_bytes_back (P := Tryd.prog) w 22 9 5 ⟨b, off + p, none⟩ cp v Tryd.underlying22 Tryd.underlying5 Tryd.underlying9 ?_
  intro j hj
  rw [Addr.add_lit, Nat.add_assoc]
  exact h.at (hv j hj)

theorem cut_none (w : World) (x : Option Addr) (cp : Nat) : (convert 22 9 (.slice x 0 cp)).run Tryd.prog w = .ok (.string (str [])) w := by
  cases x with
  | none => exact run_convert_bytes_nil (P := Tryd.prog) w 22 5 Tryd.underlying22 Tryd.underlying5 0 cp 9 Tryd.underlying9
  | some a => exact run_convert_bytes_back (P := Tryd.prog) w 22 9 5 a cp [] Tryd.underlying22 Tryd.underlying5 Tryd.underlying9 (fun j hj => by simp at hj)

/-- A text's piece. -/
theorem piece {t : List UInt8} {p n : Nat} (h : p + n ≤ t.length) : ((t.drop p).take n).length = n ∧ ∀ k (h : k < ((t.drop p).take n).length), t[p + k]? = some ((t.drop p).take n)[k] := by
  have e : ((t.drop p).take n).length = n := by simp; omega
  refine ⟨e, fun k hk => ?_⟩
  have : k < n := by omega
  rw [List.getElem_take, List.getElem_drop, List.getElem?_eq_getElem (by omega)]

end Go.Proofs.YtgklollpajhmlaaDoor
