/- Contracts: whether a list has a number that is needed; what is idle, place by place. -/
import Derived.Test.YtaepanmkofhgoaaWalkP
import Derived.Test.YtaepanmkofhgoaaPlainI
set_option linter.unusedVariables false
set_option linter.unusedSimpArgs false
namespace Go.Proofs.Ytaepanmkofhgoaa
open Go.RowKit

set_option maxHeartbeats 1000000 in
theorem indexFunc_any (w : World) (a : Option Addr) (cap : Nat) (xs : List Int) (b1 b2 b3 : Nat) (p : Int → Bool) (hr : Row w a xs) (hl : xs.length ≤ 400)
    (hC : ∀ n l, l ∈ xs → Calls Try.prog 57 #[.int .i64 l, .pointer (some ⟨b1, 0, none⟩), .pointer (some ⟨b2, 0, none⟩), .pointer (some ⟨b3, 0, none⟩)] (w.drewN n) fun e w' => e = .returned (.bool (p l)) ∧ ∃ m, w' = (w.drewN n).drewN m) :
    Calls Try.prog 65 #[.slice a xs.length cap, .func (.func 57) #[] #[.pointer (some ⟨b1, 0, none⟩), .pointer (some ⟨b2, 0, none⟩), .pointer (some ⟨b3, 0, none⟩)]] w fun e w' => (∃ q : Int, e = .returned (.int .i64 q) ∧ decide (0 ≤ q) = xs.any p) ∧ ∃ n, w' = w.drewN n := by
  replace hC := hide hC
  go_enter Try.func65, Try.ntmps65
  go_wp2
  go_loopw [8] (fun i wr => ∃ k n : Nat, k ≤ xs.length ∧ i = .int .i64 k ∧ (xs.take k).any p = false ∧ wr = w.drewN n) (fun i _ => xs.length - (intOf i).toNat)
  case atStart => exact ⟨0, 0, Nat.zero_le _, rfl, rfl, rfl⟩
  case round =>
    obtain ⟨k, n, hk, rfl, hno, rfl⟩ := hrel
    have HN := hide hno
    clear hno
    by_cases hlt : k < xs.length
    · obtain ⟨b, off, rfl, hb, hc⟩ := hr k hlt
      have C := (unhide hC) n xs[k] (List.getElem_mem hlt)
      clear hr hC
      by_cases he : p xs[k] = true
      · rw [he] at C
        replace C := hide C
        go_wp2_with (go_at_call 57; refine (unhide C).mono ?_; rintro e w0 ⟨rfl, m, hw0⟩; subst w0)
        go_ret
        refine ⟨⟨k, rfl, ?_⟩, n + m, rfl⟩
        rw [any_true_at p xs k hlt he]; simp
      · have he' : p xs[k] = false := by simpa using he
        rw [he'] at C
        replace C := hide C
        go_wp2_with (go_at_call 57; refine (unhide C).mono ?_; rintro e w0 ⟨rfl, m, hw0⟩; subst w0)
        go_roundw
        case rel => exact ⟨k + 1, n + m, by omega, by go_num, any_take_snoc p xs k hlt HN.out he', rfl⟩
        case measure => simp [intOf]; omega
    · have hz : xs.length ≤ k := by omega
      clear hr hC
      go_wp2
      go_ret
      refine ⟨⟨-1, rfl, ?_⟩, n, rfl⟩
      rw [any_of_take hz HN.out]; rfl

set_option maxHeartbeats 1000000 in
theorem containsFunc_any (w : World) (a : Option Addr) (cap : Nat) (xs : List Int) (b1 b2 b3 : Nat) (p : Int → Bool) (hr : Row w a xs) (hl : xs.length ≤ 400)
    (hC : ∀ n l, l ∈ xs → Calls Try.prog 57 #[.int .i64 l, .pointer (some ⟨b1, 0, none⟩), .pointer (some ⟨b2, 0, none⟩), .pointer (some ⟨b3, 0, none⟩)] (w.drewN n) fun e w' => e = .returned (.bool (p l)) ∧ ∃ m, w' = (w.drewN n).drewN m) :
    Calls Try.prog 59 #[.slice a xs.length cap, .func (.func 57) #[] #[.pointer (some ⟨b1, 0, none⟩), .pointer (some ⟨b2, 0, none⟩), .pointer (some ⟨b3, 0, none⟩)]] w fun e w' => e = .returned (.bool (xs.any p)) ∧ ∃ n, w' = w.drewN n := by
  have C := hide (indexFunc_any w a cap xs b1 b2 b3 p hr hl hC)
  clear hr hC
  generalize xs.any p = R at *
  go_enter Try.func59, Try.ntmps59
  go_wp2_with (go_at_call 65; refine (unhide C).mono ?_; rintro e w0 ⟨⟨q, rfl, HQ⟩, n, hw0⟩; replace HQ := hide HQ; subst w0)
  go_ret
  exact ⟨ret_bool HQ.out, n, rfl⟩

/-- The boxes of what is idle: which places are, and which may stand in the reason of something idle. -/
structure IS (w0 w : World) (b2 b6 gI gH pb n : Nat) (I Hm : Nat → Bool) : Prop where
  bel : Below w0.heap.size w0 w
  g2 : w0.heap.size ≤ b2
  g6 : w0.heap.size ≤ b6
  gi : w0.heap.size ≤ gI
  gh : w0.heap.size ≤ gH
  l2 : b2 < w.heap.size
  l6 : b6 < w.heap.size
  li : gI < w.heap.size
  lh : gH < w.heap.size
  c2 : w.cell? ⟨b2, 0, none⟩ = some (.pointer (some ⟨pb, 0, none⟩))
  c6 : w.cell? ⟨b6, 0, none⟩ = some (.slice (some ⟨gH, 0, none⟩) n n)
  ci : ∀ j, j < n → w.cell? ⟨gI, j, none⟩ = some (.bool (I j))
  ch : ∀ j, j < n → w.cell? ⟨gH, j, none⟩ = some (.bool (Hm j))
  fi : ∀ j, w.frozen? ⟨gI, j, none⟩ = false
  fh : ∀ j, w.frozen? ⟨gH, j, none⟩ = false
  nIH : gI ≠ gH
  n2 : b2 ≠ gI ∧ b2 ≠ gH
  n6 : b6 ≠ gI ∧ b6 ≠ gH

theorem IS.below {w0 w w' : World} {b2 b6 gI gH pb n : Nat} {I Hm : Nat → Bool} (h : IS w0 w b2 b6 gI gH pb n I Hm) (hb : Below w.heap.size w w') : IS w0 w' b2 b6 gI gH pb n I Hm :=
  ⟨h.bel.trans (hb.mono h.bel.size), h.g2, h.g6, h.gi, h.gh, Nat.lt_of_lt_of_le h.l2 hb.size, Nat.lt_of_lt_of_le h.l6 hb.size, Nat.lt_of_lt_of_le h.li hb.size, Nat.lt_of_lt_of_le h.lh hb.size,
    (hb.cell (p := ⟨b2, 0, none⟩) h.l2).trans h.c2, (hb.cell (p := ⟨b6, 0, none⟩) h.l6).trans h.c6, fun j hj => (hb.cell (p := ⟨gI, j, none⟩) h.li).trans (h.ci j hj), fun j hj => (hb.cell (p := ⟨gH, j, none⟩) h.lh).trans (h.ch j hj),
    fun j => (hb.frozen (p := ⟨gI, j, none⟩) h.li).trans (h.fi j), fun j => (hb.frozen (p := ⟨gH, j, none⟩) h.lh).trans (h.fh j), h.nIH, h.n2, h.n6⟩

/-- A place's mark is set. -/
def updB (f : Nat → Bool) (r : Nat) (v : Bool) : Nat → Bool := fun i => if i = r then v else f i

theorem IS.setH {w0 w : World} {b2 b6 gI gH pb n : Nat} {I Hm : Nat → Bool} (h : IS w0 w b2 b6 gI gH pb n I Hm) {r : Nat} (hr : r < n) (v : Bool) : IS w0 (w.setCell ⟨gH, r, none⟩ (.bool v)) b2 b6 gI gH pb n I (updB Hm r v) := by
  have hsz : (w.setCell ⟨gH, r, none⟩ (.bool v)).heap.size = w.heap.size := by simp
  have ho : ∀ b o, b ≠ gH ∨ o ≠ r → (w.setCell ⟨gH, r, none⟩ (.bool v)).cell? ⟨b, o, none⟩ = w.cell? ⟨b, o, none⟩ := fun b o hb => World.cell?_setCell_other _ _ _ _ (by intro e; cases e; rcases hb with h | h <;> exact h rfl)
  refine ⟨h.bel.setCell h.gh _, h.g2, h.g6, h.gi, h.gh, by rw [hsz]; exact h.l2, by rw [hsz]; exact h.l6, by rw [hsz]; exact h.li, by rw [hsz]; exact h.lh, (ho _ _ (.inl h.n2.2)).trans h.c2, (ho _ _ (.inl h.n6.2)).trans h.c6, fun j hj => (ho _ _ (.inl h.nIH)).trans (h.ci j hj), fun j hj => ?_, fun j => (World.frozen?_setCell _ _ _ _).trans (h.fi j), fun j => (World.frozen?_setCell _ _ _ _).trans (h.fh j), h.nIH, h.n2, h.n6⟩
  unfold updB
  by_cases e : j = r
  · subst e; rw [if_pos rfl]; exact World.cell?_setCell_same _ _ _ (h.ch j hj)
  · rw [if_neg e]; exact (ho _ _ (.inr e)).trans (h.ch j hj)

theorem IS.setI {w0 w : World} {b2 b6 gI gH pb n : Nat} {I Hm : Nat → Bool} (h : IS w0 w b2 b6 gI gH pb n I Hm) {r : Nat} (hr : r < n) (v : Bool) : IS w0 (w.setCell ⟨gI, r, none⟩ (.bool v)) b2 b6 gI gH pb n (updB I r v) Hm := by
  have hsz : (w.setCell ⟨gI, r, none⟩ (.bool v)).heap.size = w.heap.size := by simp
  have ho : ∀ b o, b ≠ gI ∨ o ≠ r → (w.setCell ⟨gI, r, none⟩ (.bool v)).cell? ⟨b, o, none⟩ = w.cell? ⟨b, o, none⟩ := fun b o hb => World.cell?_setCell_other _ _ _ _ (by intro e; cases e; rcases hb with h | h <;> exact h rfl)
  refine ⟨h.bel.setCell h.gi _, h.g2, h.g6, h.gi, h.gh, by rw [hsz]; exact h.l2, by rw [hsz]; exact h.l6, by rw [hsz]; exact h.li, by rw [hsz]; exact h.lh, (ho _ _ (.inl h.n2.1)).trans h.c2, (ho _ _ (.inl h.n6.1)).trans h.c6, fun j hj => ?_, fun j hj => (ho _ _ (.inl (fun e => h.nIH e.symm))).trans (h.ch j hj), fun j => (World.frozen?_setCell _ _ _ _).trans (h.fi j), fun j => (World.frozen?_setCell _ _ _ _).trans (h.fh j), h.nIH, h.n2, h.n6⟩
  unfold updB
  by_cases e : j = r
  · subst e; rw [if_pos rfl]; exact World.cell?_setCell_same _ _ _ (h.ci j hj)
  · rw [if_neg e]; exact (ho _ _ (.inr e)).trans (h.ci j hj)

end Go.Proofs.Ytaepanmkofhgoaa
