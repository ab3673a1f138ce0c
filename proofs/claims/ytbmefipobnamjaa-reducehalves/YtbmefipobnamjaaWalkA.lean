/- Learned clauses in memory; contracts: whether one may be, must stay, is better; whether all may be. -/
import Derived.Test.YtbmefipobnamjaaRows
import Derived.Test.YtbmefipobnamjaaPlain
import Derived.WalkKit
import Derived.WalkSpells
import Derived.BigQuiet
import Derived.OneCell
set_option linter.unusedVariables false
set_option linter.unusedSimpArgs false
namespace Go.Proofs.Ytbmefipobnamjaa
open Go.RowKit

theorem hide {p : Prop} (h : p) : Hid p := h
theorem unhide {p : Prop} (h : Hid p) : p := h
theorem ret_bool {a b : Bool} (h : a = b) : Ending.returned (.bool a) = .returned (.bool b) := by rw [h]
theorem ret_int {k : IntKind} {a b : Int} (h : a = b) : Ending.returned (.int k a) = .returned (.int k b) := by rw [h]
/-- A world is forgotten but for what is known of it. -/
theorem forget {P : World → Prop} {w : World} (I : World → Prop) (h : I w) (k : ∀ w', I w' → P w') : P w := k w h

theorem below_alloc (w : World) (o : Obj) : Below w.heap.size w (w.alloc o) := (Below.refl _ _).alloc (Nat.le_refl _) o
theorem below_drewN {N : Nat} {a w : World} (h : Below N a w) (n : Nat) : Below N a (w.drewN n) := ⟨h.os, h.tape, h.output, h.size, h.block⟩

/-- A learned clause's cells. -/
structure LnAt (w : World) (b off : Nat) (x : Ln) : Prop where
  lt : b < w.heap.size
  c0 : w.cell? ⟨b, off, none⟩ = some (.int .i64 x.lev)
  c1 : w.cell? ⟨b, off + 1, none⟩ = some (.int .i64 x.siz)
  c2 : w.cell? ⟨b, off + 2, none⟩ = some (.bool x.lck)

/-- Learned clauses behind a slice. -/
def Lns (w : World) (a : Option Addr) (L : List Ln) : Prop :=
  ∀ i, i < L.length → ∃ b off, a = some ⟨b, off, none⟩ ∧ LnAt w b (off + i * 3) (nth L i)

theorem LnAt.below {w w' : World} {b off : Nat} {x : Ln} {N : Nat} (h : LnAt w b off x) (hb : Below N w w') (hN : b < N) : LnAt w' b off x :=
  ⟨Nat.lt_of_lt_of_le h.lt hb.size, (hb.cell (p := ⟨b, off, none⟩) hN).trans h.c0, (hb.cell (p := ⟨b, off + 1, none⟩) hN).trans h.c1, (hb.cell (p := ⟨b, off + 2, none⟩) hN).trans h.c2⟩
theorem Lns.below {w w' : World} {a : Option Addr} {L : List Ln} (h : Lns w a L) (hb : Below w.heap.size w w') : Lns w' a L := by
  intro i hi
  obtain ⟨b, off, e, h⟩ := h i hi
  exact ⟨b, off, e, h.below hb h.lt⟩
theorem Lns.drewN {w : World} {a : Option Addr} {L : List Ln} (h : Lns w a L) (n : Nat) : Lns (w.drewN n) a L := by
  intro i hi
  obtain ⟨b, off, e, h⟩ := h i hi
  exact ⟨b, off, e, h.lt, h.c0, h.c1, h.c2⟩

set_option maxHeartbeats 400000 in
theorem mayBe_any (w : World) (c : Ln) :
    Calls Try.prog 16 #[.agg #[.int .i64 c.lev, .int .i64 c.siz, .bool c.lck]] w fun e w' => e = .returned (.bool (mayL c)) ∧ Below w.heap.size w w' := by
  obtain ⟨x, y, z⟩ := c
  dsimp only
  go_enter Try.func16, Try.ntmps16
  go_wp2
  all_goals
    go_ret
    exact ⟨ret_bool (by unfold mayL; rw [Bool.eq_iff_iff]; simp; omega), below_alloc w _⟩

set_option maxHeartbeats 400000 in
theorem mustStay_any (w : World) (c : Ln) :
    Calls Try.prog 15 #[.agg #[.int .i64 c.lev, .int .i64 c.siz, .bool c.lck]] w fun e w' => e = .returned (.bool (mustL c)) ∧ Below w.heap.size w w' := by
  obtain ⟨x, y, z⟩ := c
  dsimp only
  cases z
  · go_enter Try.func15, Try.ntmps15
    go_wp2
    all_goals
      go_ret
      exact ⟨ret_bool (by unfold mustL; simp), below_alloc w _⟩
  · go_enter Try.func15, Try.ntmps15
    go_wp2
    all_goals
      go_ret
      exact ⟨ret_bool (by unfold mustL; simp), below_alloc w _⟩

set_option maxHeartbeats 400000 in
theorem refMust_any (w : World) (c : Ln) :
    Calls Try.prog 8 #[.agg #[.int .i64 c.lev, .int .i64 c.siz, .bool c.lck]] w fun e w' => e = .returned (.bool (mustL c)) ∧ Below w.heap.size w w' := by
  obtain ⟨x, y, z⟩ := c
  dsimp only
  cases z
  · go_enter Try.func8, Try.ntmps8
    go_wp2
    all_goals
      go_ret
      exact ⟨ret_bool (by unfold mustL; simp), below_alloc w _⟩
  · go_enter Try.func8, Try.ntmps8
    go_wp2
    all_goals
      go_ret
      exact ⟨ret_bool (by unfold mustL; simp), below_alloc w _⟩

end Go.Proofs.Ytbmefipobnamjaa
