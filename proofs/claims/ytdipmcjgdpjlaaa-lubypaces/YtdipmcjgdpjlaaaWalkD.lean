/- Contracts of paces: Start; Tick, by the program and by the document; the document's May. -/
import Derived.Test.YtdipmcjgdpjlaaaWalkC
set_option linter.unusedVariables false
set_option linter.unusedSimpArgs false
namespace Go.Proofs.Ytdipmcjgdpjlaaa
open Go.RowKit

set_option maxHeartbeats 400000 in
theorem start_no (x : Int) (w : World) (h : inB 1048576 x = false) :
    Calls Try.prog 17 #[.int .i64 x] w fun e w' => e = .returned (.tuple #[.agg #[.int .i64 0, .int .i64 0, .int .i64 0], .int .i64 1]) ∧ Below w.heap.size w w' := by
  have CU : Hid (∀ W, Calls Try.prog 22 #[.int .i64 x] W fun e w' => e = .returned (.bool false) ∧ w' = W) := fun W => by
    have := isUnit_any x W
    rw [h] at this; exact this
  clear h
  go_enter Try.func17, Try.ntmps17
  go_wp2_with (go_at_call 22; refine (unhide CU _).mono ?_; rintro e w0 ⟨rfl, hw0⟩; subst w0)
  exact bodyPost_ret (v := .tuple #[.agg #[.int .i64 0, .int .i64 0, .int .i64 0], .int .i64 1]) (by simp [results, Try.results17, go_sem]) rfl ⟨rfl, (Below.refl _ _).alloc (Nat.le_refl _) _⟩

set_option maxHeartbeats 400000 in
theorem start_yes (U : Nat) (w : World) (u1 : 1 ≤ U) (u2 : U ≤ 1048576) :
    Calls Try.prog 17 #[.int .i64 (U : Int)] w fun e w' => e = .returned (.tuple #[.agg #[.int .i64 (U : Int), .int .i64 1, .int .i64 (U : Int)], .int .i64 0]) ∧ Below w.heap.size w w' := by
  have CU : Hid (∀ W, Calls Try.prog 22 #[.int .i64 (U : Int)] W fun e w' => e = .returned (.bool true) ∧ w' = W) := fun W => by
    have := isUnit_any (U : Int) W
    rw [inB_mk (by omega) (by omega)] at this; exact this
  have CP : Hid (∀ W, Calls Try.prog 21 #[.int .i64 (U : Int), .int .i64 1] W fun e w' => e = .returned (.agg #[.int .i64 (U : Int), .int .i64 1, .int .i64 (U : Int)]) ∧ Below W.heap.size W w') := fun W => by
    have := paceAt_any U 1 W u1 u2 (by omega) (by omega)
    have e1 : lub 1 = 1 := lub_end (k := 0) rfl
    rw [e1] at this
    simpa using this
  go_enter Try.func17, Try.ntmps17
  go_wp2_with (first
    | (go_at_call 22; refine (unhide CU _).mono ?_; rintro e w0 ⟨rfl, hw0⟩; subst w0)
    | (go_at_call 21; refine (unhide CP _).mono ?_; rintro e w1 ⟨rfl, hb1⟩; obtain ⟨hc, hf⟩ := bcell hb1; have hz := hb1.size; simp at hz; replace hb1 := hide hb1))
  refine bodyPost_ret (v := .tuple #[.agg #[.int .i64 (U : Int), .int .i64 1, .int .i64 (U : Int)], .int .i64 0]) (by simp [results, Try.results17, go_sem, hc, hz]) rfl ⟨rfl, ?_⟩
  exact ((((((Below.refl _ _).alloc (Nat.le_refl _) _).trans (hb1.out.mono (by simp))).setCell (by simp) _).setCell (by simp) _).setCell (by simp) _)

set_option maxHeartbeats 400000 in
theorem tick_no (U A L : Int) (w : World) (h : mayB U A L = false) :
    Calls Try.prog 12 #[.agg #[.int .i64 U, .int .i64 A, .int .i64 L]] w fun e w' => e = .returned (.tuple #[.agg #[.int .i64 0, .int .i64 0, .int .i64 0], .bool false]) ∧ Below w.heap.size w w' := by
  have C : Hid (∀ W, Calls Try.prog 14 #[.agg #[.int .i64 U, .int .i64 A, .int .i64 L]] W fun e w' => e = .returned (.int .i64 1) ∧ Below W.heap.size W w') := fun W => check_no U A L W h
  clear h
  go_enter Try.func12, Try.ntmps12
  go_wp2_with (go_at_call 14; refine (unhide C _).mono ?_; rintro e w1 ⟨rfl, hb1⟩; obtain ⟨hc, hf⟩ := bcell hb1; have hz := hb1.size; simp at hz; replace hb1 := hide hb1)
  refine bodyPost_ret (v := .tuple #[.agg #[.int .i64 0, .int .i64 0, .int .i64 0], .bool false]) (by simp [results, Try.results12, go_sem, hc, hz]) rfl ⟨rfl, ?_⟩
  exact (((((((Below.refl _ _).alloc (Nat.le_refl _) _).alloc (by simp) _).trans (hb1.out.mono (by simp; omega))).setCell (by simp) _).setCell (by simp) _).setCell (by simp) _)

theorem lt_of_block {w : World} {B : Nat} {o : Obj} (h : w.heap[B]? = some o) : B < w.heap.size := (Array.getElem?_eq_some_iff.1 h).1
theorem hd_set {w : World} {B i : Nat} {cs : Array Value} {v : Value} {t : TypeId} (h : w.heap[B]? = some (.cells cs t (0, 0))) : (w.setCell ⟨B, i, none⟩ v).heap[B]? = some (.cells (cs.setIfInBounds i v) t (0, 0)) := by
  have hlt := lt_of_block h
  have h' : w.heap[B] = .cells cs t (0, 0) := by simpa [Array.getElem?_eq_getElem hlt] using h
  show (w.heap.modify B _)[B]? = _
  rw [Array.getElem?_eq_getElem (by simpa using hlt), Array.getElem_modify_self, h']
  rfl
theorem hd_far {w : World} {B B' i : Nat} {v : Value} (h : B' ≠ B) : (w.setCell ⟨B, i, none⟩ v).heap[B']? = w.heap[B']? := Below.heap_setCell _ _ _ _ h

/-- A pace that lies in a block. -/
def Tri (w : World) (b : Nat) (U A L : Int) : Prop := w.heap[b]? = some (.cells #[.int .i64 U, .int .i64 A, .int .i64 L] 30 (0, 0))
section
variable {w w' : World} {b c : Nat} {U A L : Int}
theorem Tri.c0 (h : Tri w b U A L) : w.cell? ⟨b, 0, none⟩ = some (.int .i64 U) := by simp [World.cell?, show _ = _ from h]
theorem Tri.c1 (h : Tri w b U A L) : w.cell? ⟨b, 1, none⟩ = some (.int .i64 A) := by simp [World.cell?, show _ = _ from h]
theorem Tri.c2 (h : Tri w b U A L) : w.cell? ⟨b, 2, none⟩ = some (.int .i64 L) := by simp [World.cell?, show _ = _ from h]
theorem Tri.fz (h : Tri w b U A L) (i : Nat) : w.frozen? ⟨b, i, none⟩ = false := by simp [World.frozen?, show _ = _ from h]
theorem Tri.all (h : Tri w b U A L) : w.cell? ⟨b, 0, none⟩ = some (.int .i64 U) ∧ w.cell? ⟨b, 1, none⟩ = some (.int .i64 A) ∧ w.cell? ⟨b, 2, none⟩ = some (.int .i64 L) ∧ ∀ i, w.frozen? ⟨b, i, none⟩ = false := ⟨h.c0, h.c1, h.c2, h.fz⟩
theorem Tri.lt (h : Tri w b U A L) : b < w.heap.size := lt_of_block h
theorem Tri.drewN (h : Tri w b U A L) (n : Nat) : Tri (w.drewN n) b U A L := h
theorem Tri.below {B : Nat} (h : Tri w b U A L) (hb : Below B w w') (hl : b < B) : Tri w' b U A L := (hb.block _ hl).trans h
theorem Tri.alloc (h : Tri w b U A L) (o : Obj) : Tri (w.alloc o) b U A L := (Below.heap_alloc _ _ _ h.lt).trans h
theorem tri_new (w : World) (U A L : Int) : Tri (w.alloc (.cells #[.int .i64 U, .int .i64 A, .int .i64 L] 30)) w.heap.size U A L := by
  show (w.heap.push _)[w.heap.size]? = _
  simp
theorem Tri.far (h : Tri w b U A L) (hn : b ≠ c) (i : Nat) (v : Value) : Tri (w.setCell ⟨c, i, none⟩ v) b U A L := (hd_far hn).trans h
theorem Tri.set0 (h : Tri w b U A L) (x : Int) : Tri (w.setCell ⟨b, 0, none⟩ (.int .i64 x)) b x A L := (hd_set h).trans (by simp)
theorem Tri.set1 (h : Tri w b U A L) (x : Int) : Tri (w.setCell ⟨b, 1, none⟩ (.int .i64 x)) b U x L := (hd_set h).trans (by simp)
theorem Tri.set2 (h : Tri w b U A L) (x : Int) : Tri (w.setCell ⟨b, 2, none⟩ (.int .i64 x)) b U A x := (hd_set h).trans (by simp)
/-- A whole pace is stored. -/
theorem Tri.put (h : Tri w b U A L) (x y z : Int) : Tri (((w.setCell ⟨b, 0, none⟩ (.int .i64 x)).setCell ⟨b, 1, none⟩ (.int .i64 y)).setCell ⟨b, 2, none⟩ (.int .i64 z)) b x y z := ((h.set0 x).set1 y).set2 z
theorem Tri.off (h : Tri w b U A L) (hn : b ≠ c) (x y z : Value) : Tri (((w.setCell ⟨c, 0, none⟩ x).setCell ⟨c, 1, none⟩ y).setCell ⟨c, 2, none⟩ z) b U A L := ((h.far hn 0 x).far hn 1 y).far hn 2 z
end
theorem below_put {B c : Nat} {a w : World} (h : Below B a w) (hc : B ≤ c) (x y z : Value) : Below B a (((w.setCell ⟨c, 0, none⟩ x).setCell ⟨c, 1, none⟩ y).setCell ⟨c, 2, none⟩ z) :=
  ((h.setCell (p := ⟨c, 0, none⟩) hc x).setCell (p := ⟨c, 1, none⟩) hc y).setCell (p := ⟨c, 2, none⟩) hc z

/-- A pace in a box, and another one, behind what was there. -/
structure Mid (w W : World) (b c : Nat) (U A L : Int) : Prop where
  p : Tri W b U A L
  r : Tri W c 0 0 0
  bel : Below w.heap.size w W
  hb : w.heap.size ≤ b
  hc : w.heap.size ≤ c
  ne : b ≠ c
theorem mid_new (w W : World) (U A L : Int) (h : Below ((w.alloc (.cells #[.int .i64 U, .int .i64 A, .int .i64 L] 30)).alloc (.cells #[.int .i64 0, .int .i64 0, .int .i64 0] 30)).heap.size ((w.alloc (.cells #[.int .i64 U, .int .i64 A, .int .i64 L] 30)).alloc (.cells #[.int .i64 0, .int .i64 0, .int .i64 0] 30)) W) : Mid w W w.heap.size (w.heap.size + 1) U A L := by
  have n2 := tri_new (w.alloc (.cells #[.int .i64 U, .int .i64 A, .int .i64 L] 30)) 0 0 0
  have e : (w.alloc (.cells #[.int .i64 U, .int .i64 A, .int .i64 L] 30)).heap.size = w.heap.size + 1 := by simp
  rw [e] at n2
  exact ⟨((tri_new w U A L).alloc _).below h (by simp; omega), n2.below h (by simp), (((Below.refl _ _).alloc (Nat.le_refl _) _).alloc (by simp) _).trans (h.mono (by simp; omega)), Nat.le_refl _, by omega, by omega⟩

set_option maxHeartbeats 400000 in
theorem tick_one (U A L : Int) (w : World) (h : mayB U A L = true) (hL : 1 < L) (hL2 : L ≤ 1125899906842624) :
    Calls Try.prog 12 #[.agg #[.int .i64 U, .int .i64 A, .int .i64 L]] w fun e w' => e = .returned (.tuple #[.agg #[.int .i64 U, .int .i64 A, .int .i64 (L - 1)], .bool false]) ∧ Below w.heap.size w w' := by
  have C : Hid (∀ W, Calls Try.prog 14 #[.agg #[.int .i64 U, .int .i64 A, .int .i64 L]] W fun e w' => e = .returned (.int .i64 0) ∧ Below W.heap.size W w') := fun W => check_yes U A L W h
  clear h
  go_enter Try.func12, Try.ntmps12
  go_upto_region 3 with (go_at_call 14; refine (unhide C _).mono ?_; rintro e w1 ⟨rfl, hb1⟩)
  have HM := mid_new w _ U A L hb1
  clear hb1
  generalize w.heap.size + 1 = c at *
  generalize w.heap.size = b at HM
  have HM0 := hide HM
  obtain ⟨p0, p1, p2, pf⟩ := HM.p.all
  obtain ⟨r0, r1, r2, rf⟩ := HM.r.all
  clear HM C
  go_upto_region 5 with fail
  refine forget (P := fun W => Code.wp Try.prog _ _ _ W) (fun W => Mid w W b c U A (L - 1)) ⟨HM0.out.p.set2 _, HM0.out.r.far (Ne.symm HM0.out.ne) _ _, HM0.out.bel.setCell (p := ⟨b, 2, none⟩) HM0.out.hb _, HM0.out.hb, HM0.out.hc, HM0.out.ne⟩ ?_
  clear p0 p1 p2 pf r0 r1 r2 rf HM0
  intro W HM
  have HM0 := hide HM
  obtain ⟨p0, p1, p2, pf⟩ := HM.p.all
  obtain ⟨r0, r1, r2, rf⟩ := HM.r.all
  clear HM
  go_wp2
  refine bodyPost_ret (v := .tuple #[.agg #[.int .i64 U, .int .i64 A, .int .i64 (L - 1)], .bool false]) (by simp [results, Try.results12, go_sem, r0, r1, r2]) rfl ⟨rfl, ?_⟩
  exact below_put HM0.out.bel HM0.out.hc _ _ _

set_option maxHeartbeats 800000 in
theorem tick_anew (U n : Nat) (w : World) (u1 : 1 ≤ U) (u2 : U ≤ 1048576) (h1 : 1 ≤ n) (h2 : n ≤ 1073741824) (m : Nat) (hm : m = if n = 1073741824 then 1 else n + 1) :
    Calls Try.prog 12 #[.agg #[.int .i64 (U : Int), .int .i64 (n : Int), .int .i64 1]] w fun e w' => e = .returned (.tuple #[.agg #[.int .i64 (U : Int), .int .i64 (m : Int), .int .i64 ((U : Int) * (lub m : Int))], .bool true]) ∧ Below w.heap.size w w' := by
  have hl := lub_bd h1 h2
  have hmay : mayB U n 1 = true := by
    rw [mayB_last (inB_mk (by omega) (by omega)) (inB_mk (by omega) (by omega)) (by omega), Int.toNat_natCast]
    have := prod_bd (U := (U : Int)) (l := (lub n : Int)) (by omega) (by omega) (by omega) (by omega)
    simp; omega
  have C : Hid (∀ W, Calls Try.prog 14 #[.agg #[.int .i64 (U : Int), .int .i64 (n : Int), .int .i64 1]] W fun e w' => e = .returned (.int .i64 0) ∧ Below W.heap.size W w') := fun W => check_yes U n 1 W hmay
  have CP : Hid (∀ W, Calls Try.prog 21 #[.int .i64 (U : Int), .int .i64 (m : Int)] W fun e w' => e = .returned (.agg #[.int .i64 (U : Int), .int .i64 (m : Int), .int .i64 ((U : Int) * (lub m : Int))]) ∧ Below W.heap.size W w') := fun W => paceAt_any U m W u1 u2 (by rw [hm]; split <;> omega) (by rw [hm]; split <;> omega)
  clear hmay hl
  generalize ((U : Int) * (lub m : Int)) = R at *
  by_cases hn : n = 1073741824
  · rw [if_pos hn] at hm
    subst hm
    have hb : ((n : Int) == 1073741824) = true := by simp; omega
    clear hn
    go_enter Try.func12, Try.ntmps12
    go_upto_region 3 with (go_at_call 14; refine (unhide C _).mono ?_; rintro e w1 ⟨rfl, hb1⟩)
    have HM := mid_new w _ _ _ _ hb1
    clear hb1
    generalize w.heap.size + 1 = c at *
    generalize w.heap.size = b at HM
    have HM0 := hide HM
    obtain ⟨p0, p1, p2, pf⟩ := HM.p.all
    obtain ⟨r0, r1, r2, rf⟩ := HM.r.all
    clear HM C
    go_wp2_with (go_at_call 21; refine (unhide CP _).mono ?_; rintro e w2 ⟨rfl, hb2⟩; have HR := HM0.out.r.below hb2 HM0.out.r.lt; have HR0 := hide HR; obtain ⟨q0, q1, q2, qf⟩ := HR.all; clear HR; replace hb2 := hide hb2)
    refine bodyPost_ret (v := .tuple #[.agg #[.int .i64 (U : Int), .int .i64 1, .int .i64 R], .bool true]) (by simp [results, Try.results12, go_sem, q0, q1, q2]) rfl ⟨rfl, ?_⟩
    exact below_put (HM0.out.bel.trans (hb2.out.mono HM0.out.bel.size)) HM0.out.hc _ _ _
  · rw [if_neg hn] at hm
    subst hm
    have hb : ((n : Int) == 1073741824) = false := by simp; omega
    clear hn
    go_enter Try.func12, Try.ntmps12
    go_upto_region 3 with (go_at_call 14; refine (unhide C _).mono ?_; rintro e w1 ⟨rfl, hb1⟩)
    have HM := mid_new w _ _ _ _ hb1
    clear hb1
    generalize w.heap.size + 1 = c at *
    generalize w.heap.size = b at HM
    have HM0 := hide HM
    obtain ⟨p0, p1, p2, pf⟩ := HM.p.all
    obtain ⟨r0, r1, r2, rf⟩ := HM.r.all
    clear HM C
    go_wp2_with (go_at_call 21; refine (unhide CP _).mono ?_; rintro e w2 ⟨rfl, hb2⟩; have HR := HM0.out.r.below hb2 HM0.out.r.lt; have HR0 := hide HR; obtain ⟨q0, q1, q2, qf⟩ := HR.all; clear HR; replace hb2 := hide hb2)
    refine bodyPost_ret (v := .tuple #[.agg #[.int .i64 (U : Int), .int .i64 ((n + 1 : Nat) : Int), .int .i64 R], .bool true]) (by simp [results, Try.results12, go_sem, q0, q1, q2]) rfl ⟨rfl, ?_⟩
    exact below_put (HM0.out.bel.trans (hb2.out.mono HM0.out.bel.size)) HM0.out.hc _ _ _

end Go.Proofs.Ytdipmcjgdpjlaaa
