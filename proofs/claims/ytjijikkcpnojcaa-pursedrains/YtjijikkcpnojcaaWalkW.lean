/- Contract of the law's like. -/
import Derived.Test.YtjijikkcpnojcaaWalkV
set_option linter.unusedVariables false
set_option linter.unusedSimpArgs false
namespace Go.Proofs.Ytjijikkcpnojcaa
open Go.RowKit Go.Conc

structure Lk (w W : World) (X p K kc N : Nat) (ch room left : Nat → Nat) (nx q off ca b cb d : Nat) : Prop where
  pu : Pu W p K kc N ch room left nx
  rf : Rf W q off b cb N room left
  hd : W.heap[X]? = some (.cells (rv q off ca b cb N d) 31 (0, 0))
  bel : Below w.heap.size w W
section
variable {w W W' : World} {X p K kc N : Nat} {ch room left : Nat → Nat} {nx q off ca b cb d : Nat}
theorem Lk.below (h : Lk w W X p K kc N ch room left nx q off ca b cb d) (hb : Below W.heap.size W W') : Lk w W' X p K kc N ch room left nx q off ca b cb d :=
  ⟨h.pu.below hb, h.rf.below hb, (hb.block _ (lt_of_block h.hd)).trans h.hd, h.bel.trans (hb.mono h.bel.size)⟩
theorem Lk.drewN (h : Lk w W X p K kc N ch room left nx q off ca b cb d) (m : Nat) : Lk w (W.drewN m) X p K kc N ch room left nx q off ca b cb d := h.below (below_drewN (Below.refl _ _) m)
theorem Lk.c0 (h : Lk w W X p K kc N ch room left nx q off ca b cb d) : W.cell? ⟨X, 0, none⟩ = some (.slice (some ⟨q, off, none⟩) N ca) := by simp [World.cell?, h.hd, rv]
theorem Lk.c1 (h : Lk w W X p K kc N ch room left nx q off ca b cb d) : W.cell? ⟨X, 1, none⟩ = some (.slice (some ⟨b, 0, none⟩) N cb) := by simp [World.cell?, h.hd, rv]
theorem Lk.c2 (h : Lk w W X p K kc N ch room left nx q off ca b cb d) : W.cell? ⟨X, 2, none⟩ = some (.int .i64 (d : Int)) := by simp [World.cell?, h.hd, rv]
end

/-- A region that draws its order, its worlds all of one kind. -/
theorem wp_region_class {P : Program} {C : World → Prop} {id : Nat} {Q : Exit → Act → World → Prop} {a : Act} {w : World} {l : List Oper} (hm : P.follows .mixedOrders = true) (hB : Region.lexB .any l.toArray = true) (hC : C { w with drawn := w.drawn + 1 })
    (h : wpQuiet P l.toArray C (fun a' => ∀ w', C w' → Q .normal a' w') l a) : (Code.region id l.toArray true).wp P Q a w :=
  wp_region_quiet (C := C) hm hB hC (by simpa using h)
/-- A world of that kind. -/
structure LkW (w : World) (X p K kc N : Nat) (ch room left : Nat → Nat) (nx q off ca b cb d : Nat) where
  W : World
  h : Lk w W X p K kc N ch room left nx q off ca b cb d

set_option maxHeartbeats 4000000 in
set_option maxRecDepth 100000 in
theorem like_any (w : World) (p K kc N : Nat) (ch room left : Nat → Nat) (nx q off ca b cb d : Nat) (hA : Pu w p K kc N ch room left nx) (hR : Rf w q off b cb N room left) :
    Calls Try.prog 10 #[.pointer (some ⟨p, 0, none⟩), .agg (rv q off ca b cb N d)] w fun e w' => e = .returned (.bool true) ∧ Below w.heap.size w w' := by
  have hN := hA.n8
  have hle := hide hA.le
  have hrm := hide hA.rm
  have hL : Lk w (w.alloc (.cells (rv q off ca b cb N d) 31)) w.heap.size p K kc N ch room left nx q off ca b cb d := by
    have hb : Below w.heap.size w (w.alloc (.cells (rv q off ca b cb N d) 31)) := (Below.refl _ _).alloc (Nat.le_refl _) _
    exact ⟨hA.below hb, hR.below hb, heap_alloc_new w _, hb⟩
  have HL := hide hL
  clear hL hA hR
  unfold rv
  go_enter Try.func10, Try.ntmps10
  go_wp2
  refine forget (P := fun W => Code.wp Try.prog _ _ _ W) (fun W => Hid (Lk w W w.heap.size p K kc N ch room left nx q off ca b cb d)) HL ?_
  intro W1 HL1
  obtain ⟨X, hX⟩ : ∃ X, X = w.heap.size := ⟨_, rfl⟩
  rw [← hX] at HL1 ⊢
  clear hX HL
  have k0 : ∀ z : LkW w X p K kc N ch room left nx q off ca b cb d, z.W.cell? ⟨X, 0, none⟩ = some (.slice (some ⟨q, off, none⟩) N ca) := fun z => z.h.c0
  have k1 : ∀ z : LkW w X p K kc N ch room left nx q off ca b cb d, z.W.cell? ⟨X, 1, none⟩ = some (.slice (some ⟨b, 0, none⟩) N cb) := fun z => z.h.c1
  have k2 : ∀ z : LkW w X p K kc N ch room left nx q off ca b cb d, z.W.cell? ⟨X, 2, none⟩ = some (.int .i64 (d : Int)) := fun z => z.h.c2
  have inst : Nonempty (LkW w X p K kc N ch room left nx q off ca b cb d) := ⟨⟨_, HL1.out⟩⟩
  go_loopw [5] (fun i wx => ∃ m : Nat, m ≤ N ∧ i = .int .i64 (m : Int) ∧ Hid (Lk w wx X p K kc N ch room left nx q off ca b cb d)) (fun i _ => N - (intOf i).toNat)
  case atStart => exact ⟨0, Nat.zero_le _, rfl, HL1⟩
  case round =>
    obtain ⟨m, hm, rfl, HL4⟩ := hrel
    clear HL1
    have c0 := HL4.out.c0
    by_cases hlt : m < N
    · have ka : ∀ z : LkW w X p K kc N ch room left nx q off ca b cb d, z.W.cell? ⟨q, off + m, none⟩ = some (.int .i64 (room m : Int)) := fun z => (z.h.rf.r m hlt).2
      have kb : ∀ z : LkW w X p K kc N ch room left nx q off ca b cb d, z.W.cell? ⟨b, m, none⟩ = some (.int .i64 (left m : Int)) := fun z => z.h.rf.s.cell hlt
      have GH : Hid (∀ z : LkW w X p K kc N ch room left nx q off ca b cb d, Calls Try.prog 12 #[.pointer (some ⟨p, 0, none⟩), .int .i64 (m : Int)] z.W fun e w' => e = .returned (.int .i64 (left m : Int)) ∧ w' = z.W) := fun z => left_yes z.W p K kc N ch room left nx m z.h.pu hlt
      have h1 := hle.out m hlt
      have h2 := hrm.out m hlt
      generalize left m = y at *
      generalize room m = r at *
      have hd1 : ((y : Int) != y) = false := by simp
      have hd2 : decide ((y : Int) < 0) = false := by simp
      have hd3 : decide ((r : Int) < (y : Int)) = false := by simp; omega
      go_upto_region 4 with fail
      refine wp_region_class (C := fun W' => ∃ z : LkW w X p K kc N ch room left nx q off ca b cb d, W' = z.W) (by kernel_rfl) (by kernel_rfl) ⟨⟨_, HL4.out.drewN 1⟩, rfl⟩ ?_
      repeat (go_big_quiet_step ((first | (go_at_call 12; rename_i z; refine (unhide GH z).mono ?_; rintro e w0 ⟨rfl, hw0⟩; exact ⟨rfl, z, hw0⟩))))
      refine wpQuiet_nil ?_
      rintro _ ⟨z, rfl⟩
      have HP := hide z.h
      clear ka kb GH
      generalize z.W = W9 at *
      go_wp2
      go_roundw
      case rel => exact ⟨m + 1, by omega, by go_num, HP⟩
      case measure => simp [intOf]; omega
    · have hmn : N ≤ m := by omega
      have hs := hide (sumN_bd N hrm.out)
      have GS : Hid (∀ z : LkW w X p K kc N ch room left nx q off ca b cb d, Calls Try.prog 15 #[.pointer (some ⟨p, 0, none⟩)] z.W fun e w' => e = .returned (.int .i64 ((sumN room N - sumN left N : Nat) : Int)) ∧ w' = z.W) := fun z => spent_any z.W p K kc N ch room left nx z.h.pu
      have GR : Hid (∀ z : LkW w X p K kc N ch room left nx q off ca b cb d, Calls Try.prog 20 #[.agg (rv q off ca b cb N d)] z.W fun e w' => e = .returned (.int .i64 ((sumN room N - sumN left N : Nat) : Int)) ∧ Below z.W.heap.size z.W w') := fun z => refSpent_any z.W q off ca b cb N d room left z.h.rf hN hle.out hrm.out
      have GH : Hid (∀ (z : LkW w X p K kc N ch room left nx q off ca b cb d) (v : Int), v < 0 ∨ (N : Int) ≤ v → Calls Try.prog 12 #[.pointer (some ⟨p, 0, none⟩), .int .i64 v] z.W fun e w' => e = .returned (.int .i64 0) ∧ w' = z.W) := fun z v hv => left_no z.W p K kc N ch room left nx v z.h.pu (by simp [kinB]; omega)
      unfold rv at GR
      generalize sumN room N - sumN left N = S at *
      have hd1 : ((S : Int) == S) = true := by simp
      go_upto_region 6 with fail
      refine wp_region_class (C := fun W' => ∃ z : LkW w X p K kc N ch room left nx q off ca b cb d, W' = z.W) (by kernel_rfl) (by kernel_rfl) ⟨⟨_, HL4.out.drewN 1⟩, rfl⟩ ?_
      repeat (go_big_quiet_step ((first | (go_at_call 12; rename_i z; refine (unhide GH z _ (by omega)).mono ?_; rintro e w0 ⟨rfl, hw0⟩; exact ⟨rfl, z, hw0⟩) | (go_at_call 15; rename_i z; refine (unhide GS z).mono ?_; rintro e w0 ⟨rfl, hw0⟩; exact ⟨rfl, z, hw0⟩) | (go_at_call 20; rename_i z; refine (unhide GR z).mono ?_; rintro e w3 ⟨rfl, hb3⟩; exact ⟨rfl, ⟨_, z.h.below hb3⟩, rfl⟩))))
      refine wpQuiet_nil ?_
      rintro _ ⟨z, rfl⟩
      go_wp2
      go_ret
      exact ⟨rfl, z.h.bel⟩
end Go.Proofs.Ytjijikkcpnojcaa
